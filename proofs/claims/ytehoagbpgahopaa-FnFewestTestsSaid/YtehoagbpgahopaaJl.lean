/- Walks: FewestTests, by the model: the search for the fewest tests. -/
import Derived.Test.YtehoagbpgahopaaYh
import Derived.Test.YtehoagbpgahopaaJn
import Derived.Test.YtehoagbpgahopaaOc
import Derived.Test.YtehoagbpgahopaaJh
namespace Go.Proofs.Ytehoagbpgahopaa
open Go.RowKit

theorem smN_le : ∀ (xs left : List (List Int)) (most : Nat), smN xs left most ≤ most + 1
  | [], left, most => by simp only [smN]; split <;> omega
  | x :: xs, left, most => by
    simp only [smN]
    split
    · omega
    · split
      · omega
      · split <;> omega
theorem smN_nil (xs : List (List Int)) (most : Nat) : smN xs [] most = 0 := by cases xs <;> simp [smN]
theorem smN_end {left : List (List Int)} (h : left ≠ []) (most : Nat) : smN [] left most = most + 1 := by simp [smN, h]
theorem smN_zero {left : List (List Int)} (h : left ≠ []) (xs : List (List Int)) : smN xs left 0 = 1 := by cases xs <;> simp [smN, h]
theorem smN_less {left xs : List (List Int)} {x : List Int} {most : Nat} (h : left ≠ []) (h0 : most ≠ 0) (hl : (rstP left x).length < left.length) :
    smN (x :: xs) left most = min (min (most + 1) (1 + smN xs (rstP left x) (most - 1))) (smN xs left (min most (min (most + 1) (1 + smN xs (rstP left x) (most - 1)) - 1))) := by
  simp only [smN, if_neg h, if_neg h0, if_pos hl]
theorem smN_same {left xs : List (List Int)} {x : List Int} {most : Nat} (h : left ≠ []) (h0 : most ≠ 0) (hl : ¬ (rstP left x).length < left.length) :
    smN (x :: xs) left most = min (most + 1) (smN xs left (min most (most + 1 - 1))) := by
  simp only [smN, if_neg h, if_neg h0, if_neg hl]

set_option maxRecDepth 100000 in
set_option maxHeartbeats 8000000 in
theorem s_smallest {n : Nat} {all : List (List Int)} (hn : n ≤ 1048576) (hall : ∀ x ∈ all, x.length = n) (h9 : all.length ≤ 9) : ∀ (d k : Nat) (left : List (List Int)) (most : Nat) (a a' : Option Addr) (c c' : Nat) (w : World),
    all.length - k = d → k ≤ all.length → left.length ≤ 1048576 → most ≤ 800 → (∀ p ∈ left, p.length ≤ n) → RII w 0 w.heap.size a all → RII w 0 w.heap.size a' left →
    Calls Try.prog 177 #[.slice a all.length c, .int .i64 k, .slice a' left.length c', .int .i64 most] w (NewV w (.int .i64 (smN (all.drop k) left most : Nat))) := by
  have HALL := Lib.hid hall
  clear hall
  obtain ⟨N, hN⟩ : ∃ N, all.length = N := ⟨_, rfl⟩
  have HN := Lib.hid hN
  rw [hN] at h9 ⊢
  clear hN
  intro d
  induction d with
  | zero =>
    intro k left most a a' c c' w hd hk hll hm hp hA hP
    have hkN : k = N := by omega
    obtain ⟨L, hL⟩ : ∃ L, left.length = L := ⟨_, rfl⟩
    have HL := Lib.hid hL
    rw [hL]
    clear hL hll
    by_cases h0 : L = 0
    · have HE : Hid (smN (all.drop k) left most = 0) := by
        show _ = _
        rw [List.eq_nil_of_length_eq_zero (HL.out.trans h0), smN_nil]
      subst h0
      go_enter Try.func177, Try.ntmps177
      go_wp2
      go_ret
      rw [HE.out]
      exact ⟨rfl, Below.refl _ _⟩
    · have HE : Hid (smN (all.drop k) left most = most + 1) := by
        show _ = _
        rw [List.drop_eq_nil_of_le (by have := HN.out; omega), smN_end (by intro e; rw [e] at HL; exact h0 HL.out.symm)]
      subst hkN
      go_enter Try.func177, Try.ntmps177
      go_wp2
      go_ret
      rw [HE.out]
      exact ⟨rfl, Below.refl _ _⟩
  | succ d ih =>
    intro k left most a a' c c' w hd hk hll hm hp hA hP
    have HIH := Lib.hid ih
    have HP := Lib.hid hp
    clear ih hp
    obtain ⟨L, hL⟩ : ∃ L, left.length = L := ⟨_, rfl⟩
    have HL := Lib.hid hL
    rw [hL] at hll ⊢
    clear hL
    by_cases h0 : L = 0
    · have HE : Hid (smN (all.drop k) left most = 0) := by
        show _ = _
        rw [List.eq_nil_of_length_eq_zero (HL.out.trans h0), smN_nil]
      subst h0
      go_enter Try.func177, Try.ntmps177
      go_wp2
      go_ret
      rw [HE.out]
      exact ⟨rfl, Below.refl _ _⟩
    have HNE : Hid (left ≠ []) := by intro e; rw [e] at HL; exact h0 HL.out.symm
    have hkN : k < N := by omega
    by_cases hm0 : most = 0
    · have HE : Hid (smN (all.drop k) left most = 1) := by
        show _ = _
        rw [hm0, smN_zero HNE.out]
      subst hm0
      go_enter Try.func177, Try.ntmps177
      go_wp2
      go_ret
      rw [HE.out]
      exact ⟨rfl, Below.refl _ _⟩
    obtain ⟨x, hx⟩ := at_of_lt (show k < all.length by rw [HN.out]; exact hkN)
    have HX := Lib.hid hx
    have HXL := Lib.hid (HALL.out x (List.mem_of_getElem? hx))
    have HDR : Hid (all.drop k = x :: all.drop (k + 1)) := by
      show _ = _
      rw [List.drop_eq_getElem_cons (by rw [HN.out]; exact hkN)]
      have := List.getElem?_eq_some_iff.1 hx
      rw [this.2]
    have hst := OwnRR.made w w.heap.size 0 w.heap.size (Nat.le_refl _) (.inr (Nat.le_refl _))
    have hbst := (Below.refl w.heap.size w).alloc (Nat.le_refl _) (.cells #[] 23)
    clear hx
    have hc1 : ((L : Int) == 0) = false := by rw [beq_eq_false_iff_ne]; omega
    have hc2 : ((k : Int) == (N : Int)) = false := by rw [beq_eq_false_iff_ne]; omega
    have hc3 : ((most : Int) == 0) = false := by rw [beq_eq_false_iff_ne]; omega
    go_enter Try.func177, Try.ntmps177
    go_wp2
    go_loopw [9, 10] (fun vr i wr => ∃ j : Nat, j ≤ L ∧ i = .int .i64 j ∧ OwnRR wr w.heap.size 0 w.heap.size vr (rstP (left.take j) x) ∧ Below w.heap.size w wr) (fun _ i _ => L - (intOf i).toNat)
    case atStart => exact ⟨0, Nat.zero_le _, rfl, by simpa [rstP] using hst, hbst⟩
    case round =>
      clear hst hbst
      obtain ⟨j, hj, rfl, hown, hB4⟩ := hrel
      have hsz := hB4.size
      by_cases hlt : j < L
      · obtain ⟨b, o, a6, c6, r, ha, _, hbh, hcell, hr1, hxx, hcp⟩ := (hP.below hB4 (Nat.le_refl _)).atc (show j < left.length by rw [HL.out]; exact hlt)
        obtain ⟨b2, o2, a7, c7, x', ha7, _, hbh7, hcell7, hx7, hxx7⟩ := (hA.below hB4 (Nat.le_refl _)).at (show k < all.length by rw [HN.out]; exact hkN)
        have hxe : x' = x := by have := HX.out; rw [hxx7.out] at this; exact Option.some.inj this
        subst hxe
        have hidx := idxII ha hlt c'
        have hidx7 := idxII ha7 hkN c
        have hrl := HP.out r (List.mem_of_getElem? hxx.out)
        have hml := rstP_len left x' j
        have hll2 : left.length ≤ 1048576 := by rw [HL.out]; exact hll
        have HC := Lib.hid (fun nn => s_matches (c := c6) (c' := c7) (hr1.drewN nn) (hx7.drewN nn) (by have := HXL.out; omega) (by have := HXL.out; omega))
        clear ha ha7 hx7
        have HOWN : Hid (∀ nn, OwnRR (wr.drewN nn) w.heap.size 0 w.heap.size _ (rstP (left.take j) x')) := fun nn => hown.below (Dr.below (w := wr) (w' := wr.drewN nn) ⟨nn, rfl⟩ _) (by omega)
        have HBD : Hid (∀ nn, Below w.heap.size w (wr.drewN nn)) := fun nn => hB4.trans (Dr.below (w := wr) (w' := wr.drewN nn) ⟨nn, rfl⟩ _)
        have HRR : Hid (∀ nn, RI (wr.drewN nn) 0 w.heap.size a6 r) := fun nn => hr1.drewN nn
        cases hc : mB r x'
        · have HM := Lib.hid (rstP_step hxx.out hc)
          rw [hc] at HC
          clear hc hown
          go_wp2_with fail
          go_quiet (exact Calls.quiet_of (HC.out _))
          go_wp2_with (first
            | (at_builtin; refine wpList_appR1 rfl (.tmp 42) (.tmp 47) rfl w.heap.size 0 w.heap.size _ (rstP (left.take j) x') (by rfl) (HOWN.out _) hsz hsz r a6 r.length c6 (by rfl) (HRR.out _) hcp wr.heap.size (by rfl) (by rfl) (by omega) ?_; intro v3 w3 hown3 hk3 _)
            | go_in)
          rw [← HM.out] at hown3
          have hB7 := (HBD.out _).trans (hk3.below hsz)
          clear hB4 hk3
          go_roundw
          case rel => exact ⟨j + 1, by omega, by go_num, hown3, hB7⟩
          case measure => simp [intOf]; omega
        · have HM := Lib.hid (rstP_skip hxx.out hc)
          rw [hc] at HC
          clear hc
          go_wp2_with fail
          go_quiet (exact Calls.quiet_of (HC.out _))
          go_wp2
          go_roundw
          case rel => exact ⟨j + 1, by omega, by go_num, by rw [HM.out]; exact HOWN.out _, HBD.out _⟩
          case measure => simp [intOf]; omega
      · have HKE : Hid (left.take j = left) := List.take_of_length_le (by have := HL.out; omega)
        rw [HKE.out] at hown
        obtain ⟨a8, c8, rfl, hL8⟩ := hown.sliceU (by omega) (by omega)
        have hA8 : RII wr 0 wr.heap.size a all := (hA.below hB4 (Nat.le_refl _)).wide (Nat.le_refl _) hsz
        have hP8 : RII wr 0 wr.heap.size a' left := (hP.below hB4 (Nat.le_refl _)).wide (Nat.le_refl _) hsz
        have hrl := rstP_le left x
        have hrl2 : (rstP left x).length ≤ L := by have := HL.out; omega
        have hmn : 1 ≤ most := by omega
        have hMI : (((most - 1 : Nat)) : Int) = (most : Int) - 1 := by omega
        have hKI : (((k + 1 : Nat)) : Int) = (k : Int) + 1 := by omega
        have HRP : Hid (∀ p ∈ rstP left x, p.length ≤ n) := fun p hp => HP.out p (rstP_mem hp)
        by_cases hless : (rstP left x).length < L
        · have HR1 := Lib.hid (HIH.out (k + 1) (rstP left x) (most - 1) a a8 c c8 wr (by omega) (by omega) (by omega) (by omega) HRP.out hA8 hL8.rii)
          rw [hMI, hKI] at HR1
          have hS1 := smN_le (all.drop (k + 1)) (rstP left x) (most - 1)
          have HSL : Hid (smN (all.drop k) left most = min (min (most + 1) (1 + smN (all.drop (k + 1)) (rstP left x) (most - 1))) (smN (all.drop (k + 1)) left (min most (min (most + 1) (1 + smN (all.drop (k + 1)) (rstP left x) (most - 1)) - 1)))) := by
            show _ = _
            rw [HDR.out, smN_less HNE.out hm0 (by rw [HL.out]; exact hless)]
          obtain ⟨X1, hX1⟩ : ∃ X, smN (all.drop (k + 1)) (rstP left x) (most - 1) = X := ⟨_, rfl⟩
          rw [hX1] at HR1 hS1 HSL
          obtain ⟨R8, hR8⟩ : ∃ R, (rstP left x).length = R := ⟨_, rfl⟩
          rw [hR8] at HR1 hless hrl2 ⊢
          clear hX1 hR8 hL8 hown
          by_cases hb1 : X1 < most
          · have h1 : (1 + (X1 : Int)) < (most : Int) + 1 := by omega
            have h2 : (1 + (X1 : Int) - 1) < (most : Int) := by omega
            have HE : Hid (smN (all.drop k) left most = min (1 + X1) (smN (all.drop (k + 1)) left X1)) := by
              show _ = _
              rw [HSL.out, show min (most + 1) (1 + X1) = 1 + X1 from by omega, show min most (1 + X1 - 1) = X1 from by omega]
            have HR2 : Hid (∀ w2, Below wr.heap.size wr w2 → Calls Try.prog 177 #[.slice a N c, .int .i64 ((k : Int) + 1), .slice a' L c', .int .i64 (1 + (X1 : Int) - 1)] w2 (NewV w2 (.int .i64 (smN (all.drop (k + 1)) left (X1) : Nat)))) := fun w2 hb => by
              have h := HIH.out (k + 1) left (X1) a a' c c' w2 (by omega) (by omega) (by rw [HL.out]; exact hll) (by omega) HP.out ((hA8.below hb (Nat.le_refl _)).wide (Nat.le_refl _) hb.size) ((hP8.below hb (Nat.le_refl _)).wide (Nat.le_refl _) hb.size)
              rw [HL.out, hKI, show (((X1 : Nat)) : Int) = 1 + (X1 : Int) - 1 from by omega] at h
              exact h
            obtain ⟨X2, hX2⟩ : ∃ X, smN (all.drop (k + 1)) left X1 = X := ⟨_, rfl⟩
            rw [hX2] at HR2 HE
            clear hX2 hMI
            go_wp2_with fail
            refine HR1.out.mono ?_
            rintro e w2 ⟨rfl, hb2⟩
            go_wp2_with fail
            refine (HR2.out _ hb2).mono ?_
            rintro e w3 ⟨rfl, hb3⟩
            go_wp2
            all_goals
              go_ret
              refine ⟨?_, (hB4.trans (hb2.mono hsz)).trans (hb3.mono (Nat.le_trans hsz hb2.size))⟩
              rw [HE.out]; refine congrArg (fun z : Int => Ending.returned (Value.int .i64 z)) ?_; omega
          · have h1 : ¬ (1 + (X1 : Int)) < (most : Int) + 1 := by omega
            have h2 : ¬ ((most : Int) + 1 - 1) < (most : Int) := by omega
            have HE : Hid (smN (all.drop k) left most = min (most + 1) (smN (all.drop (k + 1)) left most)) := by
              show _ = _
              rw [HSL.out, show min (most + 1) (1 + X1) = most + 1 from by omega, show min most (most + 1 - 1) = most from by omega]
            have HR2 : Hid (∀ w2, Below wr.heap.size wr w2 → Calls Try.prog 177 #[.slice a N c, .int .i64 ((k : Int) + 1), .slice a' L c', .int .i64 ((most : Int))] w2 (NewV w2 (.int .i64 (smN (all.drop (k + 1)) left (most) : Nat)))) := fun w2 hb => by
              have h := HIH.out (k + 1) left (most) a a' c c' w2 (by omega) (by omega) (by rw [HL.out]; exact hll) (by omega) HP.out ((hA8.below hb (Nat.le_refl _)).wide (Nat.le_refl _) hb.size) ((hP8.below hb (Nat.le_refl _)).wide (Nat.le_refl _) hb.size)
              rw [HL.out, hKI, show (((most : Nat)) : Int) = (most : Int) from by omega] at h
              exact h
            obtain ⟨X2, hX2⟩ : ∃ X, smN (all.drop (k + 1)) left most = X := ⟨_, rfl⟩
            rw [hX2] at HR2 HE
            clear hX2 hMI
            go_wp2_with fail
            refine HR1.out.mono ?_
            rintro e w2 ⟨rfl, hb2⟩
            go_wp2_with fail
            refine (HR2.out _ hb2).mono ?_
            rintro e w3 ⟨rfl, hb3⟩
            go_wp2
            all_goals
              go_ret
              refine ⟨?_, (hB4.trans (hb2.mono hsz)).trans (hb3.mono (Nat.le_trans hsz hb2.size))⟩
              rw [HE.out]; refine congrArg (fun z : Int => Ending.returned (Value.int .i64 z)) ?_; omega
        · have HE : Hid (smN (all.drop k) left most = min (most + 1) (smN (all.drop (k + 1)) left most)) := by
            show _ = _
            rw [HDR.out, smN_same HNE.out hm0 (by rw [HL.out]; exact hless), show min most (most + 1 - 1) = most from by omega]
          have h2 : ¬ ((most : Int) + 1 - 1) < (most : Int) := by omega
          obtain ⟨R8, hR8⟩ : ∃ R, (rstP left x).length = R := ⟨_, rfl⟩
          rw [hR8] at hless hrl2 ⊢
          have h3 : ((R8 : Int) < (L : Int)) = False := by simp; omega
          clear hR8 hL8 hown
          have HR2 : Hid (∀ w2, Below wr.heap.size wr w2 → Calls Try.prog 177 #[.slice a N c, .int .i64 ((k : Int) + 1), .slice a' L c', .int .i64 ((most : Int))] w2 (NewV w2 (.int .i64 (smN (all.drop (k + 1)) left (most) : Nat)))) := fun w2 hb => by
            have h := HIH.out (k + 1) left (most) a a' c c' w2 (by omega) (by omega) (by rw [HL.out]; exact hll) (by omega) HP.out ((hA8.below hb (Nat.le_refl _)).wide (Nat.le_refl _) hb.size) ((hP8.below hb (Nat.le_refl _)).wide (Nat.le_refl _) hb.size)
            rw [HL.out, hKI, show (((most : Nat)) : Int) = (most : Int) from by omega] at h
            exact h
          obtain ⟨X2, hX2⟩ : ∃ X, smN (all.drop (k + 1)) left most = X := ⟨_, rfl⟩
          rw [hX2] at HR2 HE
          clear hX2 hMI h3
          go_wp2_with fail
          refine (HR2.out _ (Below.refl _ _)).mono ?_
          rintro e w3 ⟨rfl, hb3⟩
          go_wp2
          all_goals
            go_ret
            refine ⟨?_, hB4.trans (hb3.mono hsz)⟩
            rw [HE.out]; refine congrArg (fun z : Int => Ending.returned (Value.int .i64 z)) ?_; omega

set_option maxRecDepth 100000 in
set_option maxHeartbeats 2000000 in
theorem s_FewestTests {m : List Int} {a : Option Addr} {c lo hi : Nat} {w : World} {t : Int} (hm : RI w lo hi a m) (hlm : m.length ≤ 9223372036854775807) (_ht0 : -9223372036854775808 ≤ t) (_ht1 : t ≤ 9223372036854775807) (hB : hi ≤ w.heap.size) :
    Calls Try.prog 67 #[.slice a m.length c, .int .i64 t] w (NewV w (.int .i64 (fwV m t))) := by
  cases hok : okM m
  · have HE := Lib.hid (fw_no (t := t) (.inl hok))
    have HOK := Lib.hid hok; clear hok
    go_enter Try.func67, Try.ntmps67
    go_wp2_with fail
    refine (s_validModel hm hlm).mono ?_
    rintro e w1 ⟨rfl, d1⟩
    rw [HOK.out]
    go_wp2
    go_ret
    exact ⟨by rw [HE.out]; rfl, Dr.below d1 _⟩
  cases hin : inR t 0 m.length
  · have HE := Lib.hid (fw_no (m := m) (t := t) (.inr (.inl hin)))
    have HOK := Lib.hid hok; clear hok
    have HIN := Lib.hid hin; clear hin
    go_enter Try.func67, Try.ntmps67
    go_wp2_with fail
    refine (s_validModel hm hlm).mono ?_
    rintro e w1 ⟨rfl, d1⟩
    rw [HOK.out]
    go_wp2_with fail
    refine (s_inRange _ _ _ _).mono ?_
    rintro e w2 ⟨rfl, d2⟩
    rw [HIN.out]
    go_wp2
    go_ret
    exact ⟨by rw [HE.out]; rfl, Dr.below (Dr.trans d1 d2) _⟩
  have HOK := Lib.hid hok
  have HIN := Lib.hid hin
  have ht := inR_true.1 hin
  have hm5 := okM_len hok
  have HRow := Lib.hid (ext_row (m := m))
  have HLN := Lib.hid (ext_len HOK.out)
  have HPRow := Lib.hid (patS_row (m := m) (t := t))
  have HPLN := Lib.hid (patS_len (head := []) HOK.out t)
  have HNO := Lib.hid (fun h => fw_no (m := m) (t := t) (.inr (.inr h)))
  have HYES := Lib.hid (fun h => fw_def (m := m) (t := t) HOK.out HIN.out h)
  clear hok hin
  go_enter Try.func67, Try.ntmps67
  go_wp2_with fail
  refine (s_validModel hm hlm).mono ?_
  rintro e w0 ⟨rfl, d1⟩
  rw [HOK.out]
  go_wp2_with fail
  refine (s_inRange _ _ _ _).mono ?_
  rintro e w1 ⟨rfl, d2⟩
  rw [HIN.out]
  have hd : Dr w w1 := Dr.trans d1 d2
  have hz1 := Dr.le hd
  have hm1 := hm.dr hd
  have hbA := (Below.refl w1.heap.size w1).alloc (Nat.le_refl _) (.cells #[] 3)
  have hm3 := hm1.below hbA (by omega)
  clear d1 d2
  go_wp2_with fail
  refine (s_extend HOK.out m.length [] a ⟨w1.heap.size, 0, none⟩ c 0 lo hi 0 0 _ (by simp) hm3 (by simp; omega) (RI.nil _ _ _ _) (by simp)).mono ?_
  rintro e w2 ⟨ad2, c2, rfl, h2, hb2⟩
  have hb12 : Below w1.heap.size w1 w2 := hbA.trans (hb2.mono (by simp))
  have hz2 := hb12.size
  have hall : RII w2 0 w2.heap.size (some ad2) (extS m []) := h2.rii.wide (Nat.zero_le _) (Nat.le_refl _)
  obtain ⟨N, hN⟩ : ∃ N, (extS m []).length = N := ⟨_, rfl⟩
  have HN := Lib.hid hN
  rw [hN] at HNO HYES HLN ⊢
  have hNl := HLN.out
  have hbW := (Dr.below hd w.heap.size).trans (hb12.mono hz1.2)
  clear h2 hb2 hbA hm3 hN
  by_cases h9 : N ≤ 9
  · have hm2 := hm1.below hb12 (by omega)
    have hbB := (Below.refl w2.heap.size w2).alloc (Nat.le_refl _) (.cells #[] 3)
    have hm4 := hm2.below hbB (by omega)
    have HE := Lib.hid (HYES.out h9)
    have h9n : ¬ (9 : Int) < (N : Int) := by omega
    clear HNO HYES
    go_wp2_with fail
    refine (s_patterns HOK.out m.length [] a ⟨w2.heap.size, 0, none⟩ c 0 lo hi 0 0 _ t (by simp) hm4 (by simp; omega) (RI.nil _ _ _ _) (by simp) (by omega) (by omega)).mono ?_
    rintro e w3 ⟨ad3, c3, rfl, h3, hb3⟩
    have hb23 : Below w2.heap.size w2 w3 := hbB.trans (hb3.mono (by simp))
    have hz3 := hb23.size
    have hps : RII w3 0 w3.heap.size (some ad3) (patS m [] t) := h3.rii.wide (Nat.zero_le _) (Nat.le_refl _)
    have hall3 : RII w3 0 w3.heap.size (some ad2) (extS m []) := (hall.below hb23 (Nat.le_refl _)).wide (Nat.zero_le _) hz3
    have HS := s_smallest (n := m.length) (by omega) HRow.out (by have := HN.out; omega) _ 0 (patS m [] t) N (some ad2) (some ad3) c2 c3 w3 rfl (Nat.zero_le _) (by have := HPLN.out; omega) (by omega) (fun p hp => by have := HPRow.out p hp; omega) hall3 hps
    rw [HN.out, List.drop_zero] at HS
    have HS := Lib.hid HS
    clear h3 hb3 hbB hm4
    go_wp2_with fail
    refine HS.out.mono ?_
    rintro e w4 ⟨rfl, hb4⟩
    go_wp2
    go_ret
    rw [HE.out]
    exact ⟨rfl, (hbW.trans (hb23.mono (by omega))).trans (hb4.mono (by omega))⟩
  · have HE := Lib.hid (HNO.out (by omega))
    have h9n : (9 : Int) < (N : Int) := by omega
    clear HNO HYES
    go_wp2
    go_ret
    rw [HE.out]
    exact ⟨rfl, hbW⟩

/- Walks: FewestTests, by the program. -/
open Go.RowKit

set_option maxHeartbeats 4000000 in
set_option maxRecDepth 100000 in
theorem x_OnesCount64 {x : Nat} (hx : x < 512) (w : World) : Calls Try.prog 240 #[.int .u64 (x : Int)] w (RO w (.int .i64 (popN x : Nat))) := by
  go_enter Try.func240, Try.ntmps240
  go_wp2
  go_ret
  refine ⟨?_, 0, rfl⟩
  refine congrArg (fun z : Int => Ending.returned (Value.int .i64 z)) ?_
  clear w
  revert x
  decide +kernel

theorem x_OnesCount {x : Nat} (hx : x < 512) (w : World) : Calls Try.prog 176 #[.int .u64 (x : Int)] w (RO w (.int .i64 (popN x : Nat))) := by
  go_enter Try.func176, Try.ntmps176
  go_wp2_with fail
  refine (x_OnesCount64 hx _).mono ?_
  rintro e w1 ⟨rfl, d1⟩
  go_wp2
  go_ret
  exact ⟨rfl, d1⟩

set_option maxRecDepth 100000 in
set_option maxHeartbeats 8000000 in
theorem i_FewestTests {m : List Int} {a : Option Addr} {c lo hi : Nat} {w : World} {t : Int} (hm : RI w lo hi a m) (hlm : m.length ≤ 9223372036854775807) (_ht0 : -9223372036854775808 ≤ t) (_ht1 : t ≤ 9223372036854775807) (hB : hi ≤ w.heap.size) :
    Calls Try.prog 66 #[.slice a m.length c, .int .i64 t] w (NewV w (.int .i64 (fwV m t))) := by
  cases hok : okM m
  · have HE := Lib.hid (fw_no (t := t) (.inl hok))
    have HOK := Lib.hid hok; clear hok
    go_enter Try.func66, Try.ntmps66
    go_wp2
    go_step3
    go_wp2_with fail
    refine (i_ValidModel hm hlm).mono ?_
    rintro e w1 ⟨rfl, d1⟩
    rw [HOK.out]
    go_wp2
    first | go_ret | (rw [Exit.noGoto_ret]; go_ret)
    exact ⟨by rw [HE.out]; rfl, Dr.below d1 _⟩
  cases hin : inR t 0 m.length
  · have HE := Lib.hid (fw_no (m := m) (t := t) (.inr (.inl hin)))
    have HOK := Lib.hid hok; clear hok
    have HIN := Lib.hid hin; clear hin
    go_enter Try.func66, Try.ntmps66
    go_wp2
    go_step3
    go_wp2_with fail
    refine (i_ValidModel hm hlm).mono ?_
    rintro e w1 ⟨rfl, d1⟩
    rw [HOK.out]
    go_wp2_with fail
    refine (i_isStrength hlm).mono ?_
    rintro e w2 ⟨rfl, d2⟩
    rw [HIN.out]
    go_wp2
    first | go_ret | (rw [Exit.noGoto_ret]; go_ret)
    exact ⟨by rw [HE.out]; rfl, Dr.below (Dr.trans d1 d2) _⟩
  have HOK := Lib.hid hok
  have HIN := Lib.hid hin
  have ht := inR_true.1 hin
  have hm5 := okM_len hok
  have HRow := Lib.hid (ext_row (m := m))
  have HLN := Lib.hid (ext_len HOK.out)
  have HPRow := Lib.hid (patS_row (m := m) (t := t))
  have HPLN := Lib.hid (patS_len (head := []) HOK.out t)
  have HNO := Lib.hid (fun h => fw_no (m := m) (t := t) (.inr (.inr h)))
  have HYES := Lib.hid (fun h => fw_yes (m := m) (t := t) HOK.out ht.1 ht.2 h)
  clear hok hin
  go_enter Try.func66, Try.ntmps66
  go_wp2
  go_step3
  go_wp2_with fail
  refine (i_ValidModel hm hlm).mono ?_
  rintro e w0 ⟨rfl, d1⟩
  rw [HOK.out]
  go_wp2_with fail
  refine (i_isStrength hlm).mono ?_
  rintro e w1 ⟨rfl, d2⟩
  rw [HIN.out]
  have hd : Dr w w1 := Dr.trans d1 d2
  have hz1 := Dr.le hd
  have hm1 := hm.dr hd
  clear d1 d2
  go_wp2_with fail
  refine (i_testsOf (w := w1)).mono ?_
  rintro e w2 ⟨rfl, hw2⟩
  have hbx : w2.heap[w1.heap.size]? = some (.cells #[.slice a m.length c] 23 (0, 0)) := by rw [hw2]; exact heap_alloc_new _ _
  have hb2 : Below w1.heap.size w1 w2 := by rw [hw2]; exact (Below.refl _ w1).alloc (Nat.le_refl _) _
  have hz2 : w2.heap.size = w1.heap.size + 1 := by rw [hw2]; simp
  clear hw2
  have HSEQ := Lib.hid (testsOf1_seq (n₀ := w2.heap.size) HOK.out (hm1.below hb2 (by omega)) (by omega) hbx (by omega) (Nat.le_refl _))
  have hz2l : w1.heap.size + 1 ≤ w2.heap.size ∧ w2.heap.size ≤ w1.heap.size + 1 := by omega
  clear hz2 hbx
  go_wp2_with fail
  refine (x_CollectP (enters_of Try.func238 (by kernel_rfl) rfl) HSEQ.out (Nat.le_refl _) (Below.refl _ _) (by have := HLN.out; omega)).mono ?_
  rintro e w3 ⟨v3, rfl, ho3, hb3⟩
  obtain ⟨av3, cv3, hv3, _⟩ := ho3.at
  subst hv3
  have hz3 := hb3.size
  have hb13 : Below w1.heap.size w1 w3 := hb2.trans (hb3.mono (by omega))
  have hbW : Below w.heap.size w w3 := (Dr.below hd _).trans (hb13.mono (by omega))
  have hm3 := hm1.below hb13 (by omega)
  obtain ⟨xs, hxs⟩ : ∃ xs, extS m [] = xs := ⟨_, rfl⟩
  rw [hxs] at ho3 HRow HLN HNO HYES ⊢
  obtain ⟨N, hN⟩ : ∃ N, xs.length = N := ⟨_, rfl⟩
  have HN := Lib.hid hN
  rw [hN] at HNO HYES HLN ⊢
  have hNl := HLN.out
  clear hN hxs hb2 hb3 hb13 hm hm1 HSEQ
  by_cases h9 : N ≤ 9
  case neg =>
    have HE := Lib.hid (HNO.out (by omega))
    have h9n : (9 : Int) < (N : Int) := by omega
    clear HNO HYES
    go_wp2
    first | go_ret | (rw [Exit.noGoto_ret]; go_ret)
    rw [HE.out]
    exact ⟨rfl, hbW⟩
  have HE := Lib.hid (HYES.out h9)
  have h9n : ¬ (9 : Int) < (N : Int) := by omega
  have HO3 := Lib.hid ho3
  clear HNO HYES ho3
  go_wp2_with fail
  refine (i_patternsOf HOK.out hm3 (by omega) ht.1 ht.2).mono ?_
  rintro e w4 ⟨v4, rfl, ho4, hb4⟩
  have hz4 := hb4.size
  obtain ⟨av, cv, hv4, hat⟩ := ho4.at
  subst hv4
  have HAT := Lib.hid hat
  have hbW4 := hbW.trans (hb4.mono hbW.size)
  obtain ⟨ps, hps⟩ : ∃ ps, patS m [] t = ps := ⟨_, rfl⟩
  rw [hps] at HAT HPLN HPRow HE ⊢
  obtain ⟨M, hM⟩ : ∃ M, ps.length = M := ⟨_, rfl⟩
  have HM := Lib.hid hM
  have hMl : M ≤ 1024 := by have := HPLN.out; omega
  rw [hM] at HAT ⊢
  clear hM hps hat ho4 hm3
  go_wp2
  go_loopw [7, 34] (fun v i wr => ∃ (k : Nat) (u : Value), k ≤ M ∧ i = .int .i64 k ∧ u = v ∧ OwnUs wr w4.heap.size u k (ixV xs (ps.take k)) ∧ Below w4.heap.size w4 wr) (fun _ i _ => M - (intOf i).toNat)
  case atStart => exact ⟨0, _, Nat.zero_le _, rfl, rfl, OwnUs.nil _ _, Below.refl _ _⟩
  case round =>
    obtain ⟨k, u, hk, rfl, rfl, hown, hB3⟩ := hrel
    have hz5 := hB3.size
    by_cases hlt : k < M
    · obtain ⟨p, hx⟩ := at_of_lt (show k < ps.length by have := HM.out; omega)
      obtain ⟨g, hg1, hg2, hidx, hcs⟩ := HAT.out k p hx
      have hc (j : Nat) (hj : j < 5) : wr.cell? ⟨g, k * 5 + j, none⟩ = some (.int .i64 (at5 p j)) := (hB3.cell (p := ⟨g, k * 5 + j, none⟩) hg2).trans (hcs j hj)
      have hc0 := hc 0 (by omega)
      have hc1 := hc 1 (by omega)
      have hc2 := hc 2 (by omega)
      have hc3' := hc 3 (by omega)
      have hc4 := hc 4 (by omega)
      simp only [Nat.add_zero] at hc0
      have hpl := Lib.hid (HPRow.out p (List.mem_of_getElem? hx))
      have hbA := (Below.refl wr.heap.size wr).alloc (Nat.le_refl _) (.cells #[.int .i64 (at5 p 0), .int .i64 (at5 p 1), .int .i64 (at5 p 2), .int .i64 (at5 p 3), .int .i64 (at5 p 4)] 97)
      have HC := i_indicesMet (w := wr.alloc (.cells #[.int .i64 (at5 p 0), .int .i64 (at5 p 1), .int .i64 (at5 p 2), .int .i64 (at5 p 3), .int .i64 (at5 p 4)] 97)) HO3.out (hb4.trans ((hB3.trans (hbA.mono (by omega))).mono (by omega))) (by have := HN.out; omega) (fun r hr => HRow.out r hr) hpl.out hm5.2
      rw [HN.out] at HC
      have HC := Lib.hid HC
      have HT : Hid (ixV xs (ps.take k) ++ [.int .u64 (bitN (rowB xs p) : Nat)] = ixV xs (ps.take (k + 1))) := (ixV_snoc hx).symm
      obtain ⟨X, hX⟩ : ∃ X, bitN (rowB xs p) = X := ⟨_, rfl⟩
      rw [hX] at HC HT
      clear hx hc hcs hX
      go_wp2_with fail
      refine HC.out.mono ?_
      rintro e w5 ⟨rfl, hb5⟩
      have hb05 : Below wr.heap.size wr w5 := hbA.trans (hb5.mono (by simp))
      have hz6 := hb05.size
      have hown4 : OwnUs w5 w4.heap.size u k (ixV xs (ps.take k)) := hown.kept fun j hj _ => hb05.block j hj
      clear hbA hb5 hown hc0 hc1 hc2 hc3' hc4 HC
      go_wp2_with (first
        | (at_builtin; refine wpList_appUs rfl (.tmp 38) (.tmp 42) rfl w4.heap.size k _ _ rfl hown4 (.int .u64 (X : Nat)) _ rfl rfl rfl (by omega) (by omega) ?_; intro v6 w6 hown6 hb6)
        | go_in)
      rw [HT.out] at hown6
      have hB6 : Below w4.heap.size w4 w6 := (hB3.trans (hb05.mono hz5)).trans hb6
      clear hB3 hb05 hb6 hown4
      go_roundw
      case rel => exact ⟨k + 1, _, by omega, by go_num, rfl, hown6, hB6⟩
      case measure => simp [intOf]; omega
    · have hkM : k = M := by omega
      have HK : Hid (ixV xs (ps.take k) = ixV xs ps) := by show _ = _; rw [List.take_of_length_le (by have := HM.out; omega)]
      rw [HK.out] at hown
      obtain ⟨au, cu, hvu, hatu⟩ := hown.at
      subst hvu
      subst hkM
      have HAU := Lib.hid hatu
      have hbW5 := hbW4.trans (hB3.mono hbW4.size)
      obtain ⟨P, hP⟩ : ∃ P : Nat, 2 ^ N = P := ⟨_, rfl⟩
      have HP := Lib.hid hP
      have hPl : P ≤ 512 := by rw [← hP]; show 2 ^ N ≤ 2 ^ 9; exact Nat.pow_le_pow_right (by decide) h9
      have hpow : IntKind.u64.wrap ((2 : Int) ^ N) = (P : Int) := by rw [pow_u64 (by omega), hP]
      have HRB : Hid (∀ p, bitN (rowB xs p) < 2 ^ 64) := fun p => Nat.lt_of_lt_of_le (bitN_lt _) (Nat.pow_le_pow_right (by decide) (by have := HN.out; simp [rowB]; omega))
      obtain ⟨wo, hwo⟩ : ∃ wo, wo = wr := ⟨_, rfl⟩
      subst hwo
      clear hown hatu hP hB3 hbW4
      go_wp2
      go_step3
      go_wp2
      go_loopw [6, 48] (fun vf vc wr => ∃ C : Nat, C ≤ P ∧ vc = .int .u64 (C : Nat) ∧ vf = .int .i64 (fwK xs ps C : Nat) ∧ Dr wo wr) (fun _ vc _ => P - (intOf vc).toNat)
      case atStart => exact ⟨0, Nat.zero_le _, rfl, by rw [fwK, HN.out], Dr.refl _⟩
      case round =>
        obtain ⟨C, hC, rfl, rfl, hd2⟩ := hrel
        by_cases hCP : C < P
        · obtain ⟨wi, hwi⟩ : ∃ wi, wi = wr := ⟨_, rfl⟩
          subst hwi
          have hfl := fwK_le xs ps C
          have HFL : Hid (fwK xs ps C ≤ N) := by show _ ≤ _; rw [← HN.out]; exact hfl
          obtain ⟨F, hF⟩ : ∃ F, fwK xs ps C = F := ⟨_, rfl⟩
          have HF := Lib.hid hF
          rw [hF] at HFL ⊢
          have hFl := HFL.out
          clear hF hfl
          go_wp2
          go_loopw [53] (fun j wr => ∃ y : Nat, y ≤ k ∧ j = .int .i64 y ∧ Hid (covU xs (ps.take y) C = true) ∧ Dr wi wr) (fun j _ => k - (intOf j).toNat)
          case atStart => exact ⟨0, Nat.zero_le _, rfl, by simp [Hid, covU], Dr.refl _⟩
          case round =>
            obtain ⟨y, hy, rfl, HJ, hd3⟩ := hrel
            have D3 := Dr.trans hd2 hd3
            by_cases hyk : y < k
            · obtain ⟨p, hxp⟩ := at_of_lt (show y < ps.length by have := HM.out; omega)
              obtain ⟨g, hg1, hg2, hidx, hcq⟩ := HAU.out y _ (ixV_at hxp)
              have hc1 : wr.cell? ⟨g, y, none⟩ = some (.int .u64 (bitN (rowB xs p) : Nat)) := ((Dr.below D3 wo.heap.size).cell (p := ⟨g, y, none⟩) hg2).trans hcq
              have HST : Hid (covU xs (ps.take (y + 1)) C = !((C &&& bitN (rowB xs p)) == 0)) := by
                show _ = _
                have h := HJ.out
                unfold covU at h ⊢
                rw [take_snoc hxp, List.all_append, h]; simp
              have HBAD : Hid ((C &&& bitN (rowB xs p)) = 0 → covU xs ps C = false) := by
                show _ → _
                intro h0
                unfold covU
                exact all_fails hxp (by simp [h0])
              have hand := bits_and (x := C) (y := bitN (rowB xs p)) (by omega) (HRB.out p)
              obtain ⟨X, hX⟩ : ∃ X : Nat, bitN (rowB xs p) = X := ⟨_, rfl⟩
              rw [hX] at hc1 HST HBAD hand
              clear hX hxp hcq HJ
              by_cases h0 : (C &&& X) = 0
              · have hz : (bits BinOp.and IntKind.u64 (C : Int) (X : Int) == 0) = true := by rw [hand, h0]; rfl
                have HB := Lib.hid (fwK_no (HBAD.out h0))
                rw [HF.out] at HB
                clear hand HST HBAD h0
                go_wp2
                go_roundw
                case rel => exact ⟨C + 1, by omega, by go_num, by rw [HB.out], D3⟩
                case measure => simp [intOf]; omega
              · have hz : (bits BinOp.and IntKind.u64 (C : Int) (X : Int) == 0) = false := by rw [hand, beq_eq_false_iff_ne]; omega
                have HS2 : Hid (covU xs (ps.take (y + 1)) C = true) := by
                  show _ = _; rw [HST.out]; simp [h0]
                clear hand HST HBAD h0
                go_wp2
                go_roundw
                case rel => exact ⟨y + 1, by omega, by go_num, HS2, hd3⟩
                case measure => simp [intOf]; omega
            · have HC1 : Hid (covU xs ps C = true) := by
                have h := HJ.out
                rwa [List.take_of_length_le (by have := HM.out; omega)] at h
              have HB := Lib.hid (fwK_yes HC1.out)
              rw [HF.out] at HB
              go_wp2_with fail
              refine (x_OnesCount (x := C) (by omega) _).mono ?_
              rintro e w6 ⟨rfl, d6⟩
              have D6 := Dr.trans D3 d6
              obtain ⟨O, hO⟩ : ∃ O, popN C = O := ⟨_, rfl⟩
              rw [hO] at HB ⊢
              clear hO
              go_wp2
              all_goals
                go_roundw
                case rel => exact ⟨C + 1, by omega, by go_num, by rw [HB.out]; refine congrArg (Value.int .i64) ?_; omega, D6⟩
                case measure => simp [intOf]; omega
        · have hCe : C = P := by omega
          have HR : Hid (fwV m t = (fwK xs ps C : Nat)) := by
            show _ = _
            rw [HE.out.1, hCe, ← HP.out, fwK_mu HN.out h9 HE.out.2]
          go_wp2
          first | go_ret | (rw [Exit.noGoto_ret]; go_ret)
          rw [HR.out]
          exact ⟨rfl, hbW5.trans (Dr.below hd2 _)⟩

end Go.Proofs.Ytehoagbpgahopaa
