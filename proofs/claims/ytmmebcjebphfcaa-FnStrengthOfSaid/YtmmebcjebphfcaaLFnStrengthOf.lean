/- The walk of FnStrengthOf: it returns true and writes nothing that was there. -/
import Derived.Test.YtmmebcjebphfcaaLFnValidTest
namespace Go.Proofs.Ytmmebcjebphfcaa
open Go.RowKit

theorem agree_self (p : List Int) : agree p p = true := by
  unfold agree
  rw [List.all_eq_true]
  intro q hq
  obtain ⟨k, hk⟩ := List.getElem?_of_mem hq
  have h1 : q.1 = q.2 := by
    rw [List.getElem?_zip_eq_some] at hk
    have := hk.1.symm.trans hk.2
    exact Option.some.inj this
  simp [h1]
theorem jnL_self (p : List Int) : jnL p p = p := by
  unfold jnL
  induction p with
  | nil => rfl
  | cons x p ih => simp
theorem jp_self {m p : List Int} (h : okM m = true) (h' : okP m p = true) : jpL m p p = p ∧ jpB m p p = true := by
  have h1 := jp_yes h h' h' (agree_self p)
  exact ⟨h1.1.trans (jnL_self p), h1.2⟩

set_option maxRecDepth 100000 in
set_option maxHeartbeats 2000000 in
theorem law_FnStrengthOf {m0 : Nat} {a0 : Option Addr} {c0 : Nat} {w : World} (f0 : RB w w.heap.size a0 m0) (l0 : m0 ≤ c0) :
    Calls Try.prog 8 #[.slice a0 m0 c0] w (Tru w) := by
  by_cases hb : m0 ≤ 1048576
  case neg =>
    go_enter Try.func8, Try.ntmps8
    go_wp2
    go_ret
    exact ⟨rfl, Below.refl _ _⟩
  go_enter Try.func8, Try.ntmps8
  go_wp2_with fail
  refine (s_DrawStrengthOf f0 l0 hb).mono ?_
  rintro e w1 ⟨a1, c1, m, a2, c2, t, rfl, ⟨hG, hT⟩, B1⟩
  have z1 := B1.size
  have hm := hG.ri
  have ht := hT.ri
  have hl10 := hG.lp.1
  have tl11 := hT.lp.1
  have hcap := hG.cap
  have tcap := hT.cap
  clear hG hT
  clear f0
  cases hok : (okM m && okP m t)
  · skip
    have HV := Lib.hid (strV_no' hok); clear hok
    go_wp2_with fail
    refine (i_StrengthOf hm (by omega) ht (by omega)).mono ?_
    rintro e w2 ⟨rfl, d2⟩
    have b2 := Dr.below d2 w1.heap.size
    have z2 := Dr.le d2
    clear d2
    have hm := hm.below b2 (by omega)
    have ht := ht.below b2 (by omega)
    have B2 := B1.trans (b2.mono (by omega))
    clear b2 B1
    rw [HV.out]
    go_wp2_with fail
    refine (s_StrengthOf hm (by omega) ht (by omega)).mono ?_
    rintro e w3 ⟨rfl, d3⟩
    have b3 := Dr.below d3 w2.heap.size
    have z3 := Dr.le d3
    clear d3
    have hm := hm.below b3 (by omega)
    have ht := ht.below b3 (by omega)
    have B3 := B2.trans (b3.mono (by omega))
    clear b3 B2
    rw [HV.out]
    go_wp2_with fail
    refine (s_StrengthOf hm (by omega) ht (by omega)).mono ?_
    rintro e w4 ⟨rfl, d4⟩
    have b4 := Dr.below d4 w3.heap.size
    have z4 := Dr.le d4
    clear d4
    have hm := hm.below b4 (by omega)
    have ht := ht.below b4 (by omega)
    have B4 := B3.trans (b4.mono (by omega))
    clear b4 B3
    rw [HV.out]
    go_wp2
    go_ret
    exact ⟨rfl, B4⟩
  have h2 : okM m = true ∧ okP m t = true := by simpa using hok
  have HS := Lib.hid (strV_yes h2.1 h2.2)
  have HJ := Lib.hid (jp_self h2.1 h2.2)
  clear hok h2
  obtain ⟨q, hq⟩ : ∃ q, strN t = q := ⟨_, rfl⟩
  have HQ := Lib.hid hq
  have hqb : q ≤ 11 := by have := strN_le t; omega
  clear hq
  have hne : ((q : Int) != (q : Int)) = false := bne_self_eq_false _
  have hself : ((q : Int) == (q : Int)) = true := by simp
  go_wp2_with fail
  refine (i_StrengthOf hm (by omega) ht (by omega)).mono ?_
  rintro e w2 ⟨rfl, d2⟩
  have b2 := Dr.below d2 w1.heap.size
  have z2 := Dr.le d2
  clear d2
  have hm := hm.below b2 (by omega)
  have ht := ht.below b2 (by omega)
  have B2 := B1.trans (b2.mono (by omega))
  clear b2 B1
  rw [HS.out, HQ.out]
  go_wp2_with fail
  refine (s_StrengthOf hm (by omega) ht (by omega)).mono ?_
  rintro e w3 ⟨rfl, d3⟩
  have b3 := Dr.below d3 w2.heap.size
  have z3 := Dr.le d3
  clear d3
  have hm := hm.below b3 (by omega)
  have ht := ht.below b3 (by omega)
  have B3 := B2.trans (b3.mono (by omega))
  clear b3 B2
  rw [HS.out, HQ.out]
  go_wp2
  go_loopw [6, 7] (fun v i wr => ∃ k r : Nat, k ≤ t.length ∧ i = .int .i64 k ∧ v = .int .i64 r ∧ r ≤ k ∧ Hid (r = strN (t.take k)) ∧ Dr w3 wr) (fun _ i _ => t.length - (intOf i).toNat)
  case atStart => exact ⟨0, 0, Nat.zero_le _, rfl, rfl, Nat.le_refl _, by simp [Hid, strN], Dr.refl _⟩
  case round =>
    obtain ⟨k, r, hk, rfl, rfl, hrk, hr, hd⟩ := hrel
    by_cases hlt : k < t.length
    · skip
      obtain ⟨b, o, x, ha, _, _, hcell, hx⟩ := (ht.dr hd).at hlt
      have hidx := idxI ha hlt c2
      have HSN := Lib.hid (strN_snoc hx.out)
      clear ha hm ht
      by_cases hx1 : x = -1
      · skip
        have hc : (x != -1) = false := by rw [hx1]; rfl
        have HR2 : Hid (r = strN (t.take (k + 1))) := by show _ = _; rw [HSN.out, hc, ← hr.out]; rfl
        clear hx1
        go_wp2
        go_roundw
        case rel => exact ⟨k + 1, r, by omega, by go_num, by go_num, by omega, HR2, hd⟩
        case measure => simp [intOf]; omega
      · skip
        have hc : (x != -1) = true := by rw [bne_iff_ne]; exact hx1
        have HR2 : Hid (r + 1 = strN (t.take (k + 1))) := by show _ = _; rw [HSN.out, hc, ← hr.out]; rfl
        clear hx1
        go_wp2
        go_roundw
        case rel => exact ⟨k + 1, r + 1, by omega, by go_num, by go_num, by omega, HR2, hd⟩
        case measure => simp [intOf]; omega
    · skip
      have HR2 : Hid (r = q) := by show _ = _; rw [hr.out, List.take_of_length_le (by omega)]; exact HQ.out
      rw [HR2.out]
      clear hr HR2 hrk
      have hz := Dr.le hd
      have hm := hm.dr hd
      have ht := ht.dr hd
      have BB := B3.trans (Dr.below hd _)
      go_wp2_with fail
      refine (i_JoinPatterns hm (by omega) ht (by omega) ht (by omega) (by omega) (by omega)).mono ?_
      rintro e v1 ⟨ja, jc, rfl, J, bj⟩
      rw [HJ.out.1] at J
      rw [HJ.out.1, HJ.out.2]
      have ht := ht.below bj (by omega)
      have BJ := BB.trans (bj.mono (by omega))
      have heq : eqI t t = true := eqI_true.2 rfl
      go_wp2_with fail
      refine (l_equalInts J.ri ht (by omega) (by omega)).mono ?_
      rintro e v2 ⟨rfl, dj⟩
      rw [heq]
      go_wp2
      go_ret
      exact ⟨rfl, BJ.trans (Dr.below dj _)⟩

end Go.Proofs.Ytmmebcjebphfcaa
