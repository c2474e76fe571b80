/- Walks: SquareSuite. -/
import Derived.Test.YtehoagbpgahopaaYm
import Derived.Test.YtehoagbpgahopaaYo
namespace Go.Proofs.Ytehoagbpgahopaa
open Go.RowKit

def sqP (Q K x y : Nat) : List (List Int) := ((List.range x).flatMap fun x => (List.range Q).map fun y => sqR Q K x y) ++ (List.range y).map (fun y => sqR Q K x y)
theorem sqP_step (Q K x y : Nat) : sqP Q K x (y + 1) = sqP Q K x y ++ [sqR Q K x y] := by
  unfold sqP; rw [List.range_succ, List.map_append, ← List.append_assoc]; rfl
theorem sqP_next (Q K x : Nat) : sqP Q K x Q = sqP Q K (x + 1) 0 := by
  unfold sqP; rw [List.range_succ, List.flatMap_append]; simp
theorem sqP_end (Q K : Nat) : sqP Q K Q 0 = sqX Q K := by unfold sqP sqX; simp
theorem sqP_len {Q K x y : Nat} (hQ : Q ≤ 3) (hx : x ≤ 3) (hy : y ≤ 3) : (sqP Q K x y).length ≤ 12 := by
  have h : ∀ x, ((List.range x).flatMap fun x => (List.range Q).map fun y => sqR Q K x y).length = x * Q := by
    intro x
    induction x with
    | zero => simp
    | succ x ih => rw [List.range_succ, List.flatMap_append, List.length_append, ih]; simp [Nat.succ_mul]
  unfold sqP
  rw [List.length_append, h, List.length_map, List.length_range]
  have : x * Q ≤ 3 * 3 := Nat.mul_le_mul hx hQ
  omega
theorem rem_mod {a : Int} {Q : Nat} (ha : 0 ≤ a) : a.tmod Q = a % Q := Int.tmod_eq_emod_of_nonneg ha

theorem OI.takeO {w : World} {lo hi : Nat} {a : Option Addr} {m : List Int} (h : OI w lo hi a m) (k : Nat) : OI w lo hi a (m.take k) := by
  intro j hj
  rw [List.length_take] at hj
  obtain ⟨b, o, h1, h2, h3, ⟨x, h4, h5⟩, h6⟩ := h j (by omega)
  exact ⟨b, o, h1, h2, h3, ⟨x, by rw [List.getElem?_take, if_pos (by omega)]; exact h4, h5⟩, h6⟩
theorem cutToM {b o n c k : Nat} (h0 : 1 ≤ k) (hk : k ≤ c) (wx : World) : (Instr.slice 23 (.slice (some ⟨b, o, none⟩) n c) none (some (.int .i64 (k : Int))) (some (.int .i64 (k : Int)))).run Try.prog wx = .ok (.slice (some ⟨b, o, none⟩) k k) wx := by
  have hs := sizeInt wx
  rw [run_slice_any (P := Try.prog) wx 23 (some ⟨b, o, none⟩) n c undIe]
  rw [elemIe]
  simp [Instr.sliceBounds, run_sliceBound, hs, Result.andThen, sliced, Addr.add, (by omega : (k : Int) ≤ (c : Int))]
theorem sqR_len4 (Q x y : Nat) {K : Nat} (hK : K ≤ 4) : (sqR Q K x y).length = K := by unfold sqR; simp; omega

set_option maxRecDepth 100000 in
set_option maxHeartbeats 4000000 in
theorem i_SquareSuite {q k : Int} {w : World} (hq0 : -9223372036854775808 ≤ q) (hq1 : q ≤ 9223372036854775807) (hk0 : -9223372036854775808 ≤ k) (hk1 : k ≤ 9223372036854775807) :
    Calls Try.prog 70 #[.int .i64 q, .int .i64 k] w (NewIIB w (sqL q k) (sqB q k)) := by
  by_cases h1 : q < 2
  · have HN := Lib.hid (sq_no (q := q) (k := k) (by unfold sqB; rw [inR_false.2 (.inl h1)]; rfl))
    go_enter Try.func70, Try.ntmps70
    go_wp2
    go_ret2
    exact NewIIB.none HN.out (Below.refl _ _)
  by_cases h2 : 3 < q
  · have HN := Lib.hid (sq_no (q := q) (k := k) (by unfold sqB; rw [inR_false.2 (.inr h2)]; rfl))
    go_enter Try.func70, Try.ntmps70
    go_wp2
    go_ret2
    exact NewIIB.none HN.out (Below.refl _ _)
  by_cases h3 : k < 1
  · have HN := Lib.hid (sq_no (q := q) (k := k) (by unfold sqB; rw [inR_false.2 (.inl h3), Bool.and_false]))
    go_enter Try.func70, Try.ntmps70
    go_wp2
    go_ret2
    exact NewIIB.none HN.out (Below.refl _ _)
  by_cases h4 : q + 1 < k
  · have HN := Lib.hid (sq_no (q := q) (k := k) (by unfold sqB; rw [inR_false.2 (.inr h4), Bool.and_false]))
    go_enter Try.func70, Try.ntmps70
    go_wp2
    go_ret2
    exact NewIIB.none HN.out (Below.refl _ _)
  obtain ⟨Q, rfl⟩ : ∃ Q : Nat, q = Q := ⟨q.toNat, by omega⟩
  obtain ⟨K, rfl⟩ : ∃ K : Nat, k = K := ⟨k.toNat, by omega⟩
  have HY : Hid (sqL Q K = sqX Q K ∧ sqB Q K = true) := by
    have := sq_yes (q := (Q : Int)) (k := (K : Int)) (by unfold sqB; rw [inR_true.2 ⟨by omega, by omega⟩, inR_true.2 ⟨by omega, by omega⟩]; rfl)
    show _ ∧ _
    simpa using this
  obtain ⟨P, hP⟩ : ∃ P, Q * Q = P := ⟨_, rfl⟩
  have hQ3 : Q ≤ 3 := by omega
  have hPl : P ≤ 9 := by rw [← hP]; exact Nat.mul_le_mul hQ3 hQ3
  have hmul := mul_i64 hP (by omega) (by omega)
  have hmk := make0 (N := P) (by omega)
  have hst := OwnLL.room w w.heap.size P 23 rfl (Nat.le_refl _) (by unfold maxLen; omega)
  clear hP
  have hQ0 : (Q : Int) ≠ 0 := by omega
  have hQ2 : 2 ≤ Q := by omega
  have hK4 : K ≤ 4 := by omega
  have hK1 : 1 ≤ K := by omega
  go_enter Try.func70, Try.ntmps70
  go_wp2
  clear hmul hmk h1 h2 h3 h4
  go_loopw [6, 31] (fun v i wr => ∃ x : Nat, x ≤ Q ∧ i = .int .i64 x ∧ OwnLL wr w.heap.size v (sqP Q K x 0) ∧ Below w.heap.size w wr) (fun _ i _ => Q - (intOf i).toNat)
  case atStart => exact ⟨0, Nat.zero_le _, rfl, by simpa [sqP] using hst, (Below.refl _ w).alloc (Nat.le_refl _) _⟩
  case round =>
    clear hst
    obtain ⟨x, hx, rfl, hown, hBl⟩ := hrel
    have hsz0 := hBl.size
    by_cases hlt : x < Q
    · go_wp2
      go_loopw [6, 35] (fun v j wq => ∃ y : Nat, y ≤ Q ∧ j = .int .i64 y ∧ OwnLL wq w.heap.size v (sqP Q K x y) ∧ Below w.heap.size w wq) (fun _ j _ => Q - (intOf j).toNat)
      case atStart => exact ⟨0, Nat.zero_le _, rfl, hown, hBl⟩
      case round =>
        clear hown hBl
        obtain ⟨y, hy, rfl, hown, hBl⟩ := hrel
        have hsz := hBl.size
        by_cases hlt2 : y < Q
        · have hm2 : IntKind.i64.wrap (2 * (y : Int)) = 2 * (y : Int) := IntWalk.i64_in _ (by omega)
          have ha2 : IntKind.i64.wrap ((x : Int) + 2 * (y : Int)) = (x : Int) + 2 * (y : Int) := IntWalk.i64_in _ (by omega)
          have ha1 : IntKind.i64.wrap ((x : Int) + (y : Int)) = (x : Int) + (y : Int) := IntWalk.i64_in _ (by omega)
          have hcut := fun b wx => cutToM (b := b) (o := 0) (n := 4) (c := 4) hK1 hK4 wx
          have hro := (rowNew (w := wr) (cs := #[.int .i64 (x : Int), .int .i64 (y : Int), .int .i64 (((x : Int) + (y : Int)) % (Q : Int)), .int .i64 (((x : Int) + 2 * (y : Int)) % (Q : Int))]) (l := [(x : Int), (y : Int), ((x : Int) + y) % Q, ((x : Int) + 2 * y) % Q]) (c := 4) rfl (by simp)).oi.takeO K
          have hrl := sqR_len4 Q x y hK4
          obtain ⟨l, hl⟩ : ∃ l, sqR Q K x y = l := ⟨_, rfl⟩
          have hl' : ([(x : Int), (y : Int), ((x : Int) + y) % Q, ((x : Int) + 2 * y) % Q] : List Int).take K = l := hl
          rw [hl] at hrl
          rw [hl'] at hro
          have hb1 := ((Below.refl wr.heap.size wr).alloc (Nat.le_refl _) (.cells #[.int .i64 (x : Int), .int .i64 (y : Int), .int .i64 (((x : Int) + (y : Int)) % (Q : Int)), .int .i64 (((x : Int) + 2 * (y : Int)) % (Q : Int))] 3)).drew
          obtain ⟨W1, hW1⟩ : ∃ W1, (wr.alloc (.cells #[.int .i64 (x : Int), .int .i64 (y : Int), .int .i64 (((x : Int) + (y : Int)) % (Q : Int)), .int .i64 (((x : Int) + 2 * (y : Int)) % (Q : Int))] 3)).drew = W1 := ⟨_, rfl⟩
          have hW1s : W1.heap.size = wr.heap.size + 1 := by rw [← hW1]; simp
          have hroD : OI W1 wr.heap.size W1.heap.size (some ⟨wr.heap.size, 0, none⟩) l := by rw [← hW1]; exact hro.below ((Below.refl _ _).drew) (Nat.le_refl _)
          rw [hW1] at hb1
          have hO := OII.oneN (t := 23) (c := K) hrl ⟨hroD, by omega⟩ (by omega) (Nat.le_refl _)
          have hb3 := hb1.alloc (by omega) (.cells #[.slice (some ⟨wr.heap.size, 0, none⟩) K K] 23)
          obtain ⟨A3, C3, G3, hf3, hc3⟩ := Fam.ofOII hO
          rw [hW1s] at hc3
          have HX : Hid (sqP Q K x (y + 1) = sqP Q K x y ++ [l]) := by show _ = _; rw [sqP_step, hl]
          have hkl := sqP_len (K := K) hQ3 (show x ≤ 3 by omega) (show y ≤ 3 by omega)
          have HRL := Lib.hid hrl
          clear hro hl hl' hroD hO hrl
          go_wp2_with fail
          go_region
          all_goals
            try rw [hW1]
            clear hW1
            refine ‹∀ (a : Act) (w : World), _ → _› _ _ ?_
            go_wp2_with (first
              | (at_builtin; refine wpList_appLL (W0 := wr) rfl _ _ rfl w.heap.size _ (sqP Q K x y) [l] rfl hown hb3 hsz ⟨wr.heap.size + 1, 0, none⟩ 1 1 rfl rfl A3 C3 G3 hf3 hc3 (by omega) (by simp) ?_; intro v4 w4 hown4 hb4 hnn4)
              | go_in)
            rw [← HX.out] at hown4
            have hBl5 := (hBl.trans (hb3.mono hsz)).trans hb4
            clear hb4 hb3 hBl hown hf3 hc3 hnn4 hb1
            go_roundw
            case rel => exact ⟨y + 1, by omega, by go_num, hown4, hBl5⟩
            case measure => simp [intOf]; omega
        · have HK : Hid (sqP Q K x y = sqP Q K (x + 1) 0) := by show _ = _; rw [← sqP_next, show y = Q by omega]
          rw [HK.out] at hown
          go_wp2
          go_roundw
          case rel => exact ⟨x + 1, by omega, by go_num, hown, hBl⟩
          case measure => simp [intOf]; omega
    · have HKE : Hid (sqL Q K = sqP Q K x 0 ∧ sqB Q K = true) := by
        show _ ∧ _
        rw [show x = Q by omega, sqP_end]; exact HY.out
      obtain ⟨a5, c5, rfl, h5⟩ := hown.slice
      go_wp2
      go_ret2
      exact NewIIB.some HKE.out rfl h5 hBl

set_option maxRecDepth 100000 in
set_option maxHeartbeats 4000000 in
theorem s_SquareSuite {q k : Int} {w : World} (_hq0 : -9223372036854775808 ≤ q) (_hq1 : q ≤ 9223372036854775807) (_hk0 : -9223372036854775808 ≤ k) (_hk1 : k ≤ 9223372036854775807) :
    Calls Try.prog 71 #[.int .i64 q, .int .i64 k] w (NewIIB w (sqL q k) (sqB q k)) := by
  cases hi1 : inR q 2 3
  · have HI := Lib.hid hi1
    have HN := Lib.hid (sq_no (q := q) (k := k) (by unfold sqB; rw [hi1]; rfl))
    clear hi1
    go_enter Try.func71, Try.ntmps71
    go_wp2_with fail
    refine (s_inRange _ _ _ _).mono ?_
    rintro e w1 ⟨rfl, d1⟩
    rw [HI.out]
    go_wp2
    go_ret2
    exact NewIIB.none HN.out (Dr.below d1 _)
  have hq := inR_true.1 hi1
  have HI := Lib.hid hi1
  clear hi1
  cases hi2 : inR k 1 (q + 1)
  · have HJ := Lib.hid hi2
    have HN := Lib.hid (sq_no (q := q) (k := k) (by unfold sqB; rw [hi2, Bool.and_false]))
    clear hi2
    go_enter Try.func71, Try.ntmps71
    go_wp2_with fail
    refine (s_inRange _ _ _ _).mono ?_
    rintro e w1 ⟨rfl, d1⟩
    rw [HI.out]
    go_wp2_with fail
    refine (s_inRange _ _ _ _).mono ?_
    rintro e w2 ⟨rfl, d2⟩
    rw [HJ.out]
    go_wp2
    go_ret2
    exact NewIIB.none HN.out (Dr.below (Dr.trans d1 d2) _)
  have hk := inR_true.1 hi2
  have HJ := Lib.hid hi2
  have HSQ := Lib.hid (sq_yes (q := q) (k := k) (by unfold sqB; rw [HI.out, hi2]; rfl))
  clear hi2
  obtain ⟨Q, rfl⟩ : ∃ Q : Nat, q = Q := ⟨q.toNat, by omega⟩
  obtain ⟨K, rfl⟩ : ∃ K : Nat, k = K := ⟨k.toNat, by omega⟩
  have HY : Hid (sqL Q K = sqX Q K ∧ sqB Q K = true) := by
    have := HSQ.out
    show _ ∧ _
    simpa using this
  have hQ3 : Q ≤ 3 := by omega
  have hQ0 : (Q : Int) ≠ 0 := by omega
  have hQ2 : 2 ≤ Q := by omega
  have hK4 : K ≤ 4 := by omega
  have hK1 : 1 ≤ K := by omega
  clear hq hk
  go_enter Try.func71, Try.ntmps71
  go_wp2_with fail
  refine (s_inRange _ _ _ _).mono ?_
  rintro e w1 ⟨rfl, d1⟩
  rw [HI.out]
  go_wp2_with fail
  refine (s_inRange _ _ _ _).mono ?_
  rintro e w2 ⟨rfl, d2⟩
  rw [HJ.out]
  have D2 := Dr.trans d1 d2
  have hz2 := Dr.le D2
  have hst := OwnLL.made w2 w.heap.size hz2.2
  have hbb := (Dr.below D2 w.heap.size).alloc (o := .cells #[] 23) hz2.2
  clear d1 d2
  go_wp2
  go_loopw [6, 7] (fun v i wr => ∃ x : Nat, x ≤ Q ∧ i = .int .i64 x ∧ OwnLL wr w.heap.size v (sqP Q K x 0) ∧ Below w.heap.size w wr) (fun _ i _ => Q - (intOf i).toNat)
  case atStart => exact ⟨0, Nat.zero_le _, rfl, by simpa [sqP] using hst, hbb⟩
  case round =>
    clear hst hbb
    obtain ⟨x, hx, rfl, hown, hBl⟩ := hrel
    have hsz0 := hBl.size
    by_cases hlt : x < Q
    · go_wp2
      go_loopw [6, 8] (fun v j wq => ∃ y : Nat, y ≤ Q ∧ j = .int .i64 y ∧ OwnLL wq w.heap.size v (sqP Q K x y) ∧ Below w.heap.size w wq) (fun _ j _ => Q - (intOf j).toNat)
      case atStart => exact ⟨0, Nat.zero_le _, rfl, hown, hBl⟩
      case round =>
        clear hown hBl
        obtain ⟨y, hy, rfl, hown, hBl⟩ := hrel
        have hsz := hBl.size
        by_cases hlt2 : y < Q
        · have hm2 : IntKind.i64.wrap (2 * (y : Int)) = 2 * (y : Int) := IntWalk.i64_in _ (by omega)
          have ha2 : IntKind.i64.wrap ((x : Int) + 2 * (y : Int)) = (x : Int) + 2 * (y : Int) := IntWalk.i64_in _ (by omega)
          have ha1 : IntKind.i64.wrap ((x : Int) + (y : Int)) = (x : Int) + (y : Int) := IntWalk.i64_in _ (by omega)
          have hQn : Q ≠ 0 := by omega
          have ht1 : ((x : Int) + (y : Int)).tmod (Q : Int) = ((x : Int) + (y : Int)) % (Q : Int) := rem_mod (by omega)
          have ht2 : ((x : Int) + 2 * (y : Int)).tmod (Q : Int) = ((x : Int) + 2 * (y : Int)) % (Q : Int) := rem_mod (by omega)
          have hcut := fun wx => cutTo (b := wr.heap.size) (o := 0) (n := 4) (c := 4) (k := K) (z := (K : Int)) rfl hK4 wx
          have hro := (rowNew (w := wr.drew) (cs := #[.int .i64 (x : Int), .int .i64 (y : Int), .int .i64 (((x : Int) + (y : Int)) % (Q : Int)), .int .i64 (((x : Int) + 2 * (y : Int)) % (Q : Int))]) (l := [(x : Int), (y : Int), ((x : Int) + y) % Q, ((x : Int) + 2 * y) % Q]) (c := 4) rfl (by simp)).oi.takeO K
          have hrl := sqR_len4 Q x y hK4
          obtain ⟨l, hl⟩ : ∃ l, sqR Q K x y = l := ⟨_, rfl⟩
          have hl' : ([(x : Int), (y : Int), ((x : Int) + y) % Q, ((x : Int) + 2 * y) % Q] : List Int).take K = l := hl
          rw [hl] at hrl
          rw [hl'] at hro
          have hroc : OIc (wr.drew.alloc (.cells #[.int .i64 (x : Int), .int .i64 (y : Int), .int .i64 (((x : Int) + (y : Int)) % (Q : Int)), .int .i64 (((x : Int) + 2 * (y : Int)) % (Q : Int))] 3)) wr.heap.size (wr.drew.alloc (.cells #[.int .i64 (x : Int), .int .i64 (y : Int), .int .i64 (((x : Int) + (y : Int)) % (Q : Int)), .int .i64 (((x : Int) + 2 * (y : Int)) % (Q : Int))] 3)).heap.size (some ⟨wr.heap.size, 0, none⟩) 4 l := ⟨hro, by omega⟩
          have hb1 := ((Below.refl wr.heap.size wr).drew).alloc (Nat.le_refl _) (.cells #[.int .i64 (x : Int), .int .i64 (y : Int), .int .i64 (((x : Int) + (y : Int)) % (Q : Int)), .int .i64 (((x : Int) + 2 * (y : Int)) % (Q : Int))] 3)
          have HX : Hid (sqP Q K x (y + 1) = sqP Q K x y ++ [l]) := by show _ = _; rw [sqP_step, hl]
          have hkl := sqP_len (K := K) hQ3 (show x ≤ 3 by omega) (show y ≤ 3 by omega)
          have hkl2 : (sqP Q K x y).length ≤ 1099511627776 := by omega
          have HRL := Lib.hid hrl
          clear hro hl hl' hrl hkl
          go_wp2_with fail
          go_region_law ((refine step_appL1 (W0 := wr) (by rfl) _ _ (by rfl) w.heap.size _ _ (by rfl) hown hb1 hsz l _ _ _ HRL.out hroc _ (by rfl) (by simp) hkl2 ?_; intro v7 w7 hown7 hb7))
          all_goals
            have HO : Hid (OwnLL w7 w.heap.size v7 (sqP Q K x (y + 1))) := by show OwnLL _ _ _ _; rw [HX.out]; exact hown7
            have hBl5 := (hBl.trans (hb1.mono hsz)).trans hb7
            clear hown7 hb7 hown hb1
            go_wp2
            go_roundw
            case rel => exact ⟨y + 1, by omega, by go_num, HO.out, hBl5⟩
            case measure => simp [intOf]; omega
        · have HK : Hid (sqP Q K x y = sqP Q K (x + 1) 0) := by show _ = _; rw [← sqP_next, show y = Q by omega]
          rw [HK.out] at hown
          go_wp2
          go_roundw
          case rel => exact ⟨x + 1, by omega, by go_num, hown, hBl⟩
          case measure => simp [intOf]; omega
    · have HKE : Hid (sqL Q K = sqP Q K x 0 ∧ sqB Q K = true) := by
        show _ ∧ _
        rw [show x = Q by omega, sqP_end]; exact HY.out
      obtain ⟨a5, c5, rfl, h5⟩ := hown.slice
      go_wp2
      go_ret2
      exact NewIIB.some HKE.out rfl h5 hBl

end Go.Proofs.Ytehoagbpgahopaa
