/- Walks: what Shows draws; a list without one of its numbers. -/
import Derived.Test.YtkboggohkhjciaaUy
import Derived.Test.YtkboggohkhjciaaUq
import Derived.Test.YtkboggohkhjciaaOc
namespace Go.Proofs.Ytkboggohkhjciaa
open Go.RowKit

/-- a row that was drawn: numbers that nobody tells of -/
structure GotI' (w w' : World) (N : Nat) (a : Option Addr) (c : Nat) (m : List Int) : Prop where
  ri : RI w' w.heap.size w'.heap.size a m
  len : m.length ≤ N
  cap : m.length ≤ c

set_option maxRecDepth 100000 in
set_option maxHeartbeats 1000000 in
theorem l_drop {l : List Int} {a : Option Addr} {c lo hi k : Nat} {w : World} (hm : RI w lo hi a l) (hB : hi ≤ w.heap.size) (hc : l.length ≤ c) (hk : k < l.length) (hl : l.length ≤ 100) :
    Calls Try.prog 24 #[.slice a l.length c, .int .i64 (k : Int)] w (NewI w (l.eraseIdx k)) := by
  obtain ⟨b, o, x, ha, _, _, _, _⟩ := hm.at hk
  subst ha
  have hto := cutTo (b := b) (o := o) (n := l.length) (c := c) (k := k) (z := (k : Int)) rfl (by omega)
  obtain ⟨o', ho', hfrom⟩ := cutFrom (b := b) (o := o) (n := l.length) (c := c) (k := k + 1) (z := (k : Int) + 1) (by omega) (by omega) hc
  have hw1 : IntKind.i64.wrap ((k : Int) + 1) = (k : Int) + 1 := by rw [IntWalk.i64_in _ (by omega)]
  have hstA : OwnL (w.alloc (.cells #[] 3)).drew w.heap.size (.slice (some ⟨w.heap.size, 0, none⟩) 0 0) [] := (OwnL.made w w.heap.size (Nat.le_refl _)).below ((Below.refl _ _).drew)
  have hbAA := (((Below.refl w.heap.size w).alloc (Nat.le_refl _) (.cells #[] 3)).drew)
  have hwAA : w.heap.size ≤ (w.alloc (.cells #[] 3)).drew.heap.size := by simp
  have hrAA := (hm.below hbAA hB).takeI k
  have HTL : Hid (k = (l.take k).length) := by show _ = _; simp; omega
  have HDL : Hid (l.length - (k + 1) = (l.drop (k + 1)).length) := by show _ = _; simp
  have HM := Lib.hid hm
  have HO := Lib.hid ho'
  have h1 : (l.take k).length ≤ 1099511627776 := by simp; omega
  have h2 : (l.drop (k + 1)).length ≤ 1099511627776 := by simp; omega
  have hl0 : ([] : List Int).length ≤ 1099511627776 := by simp
  have HE : Hid (l.take k ++ l.drop (k + 1) = l.eraseIdx k) := by show _ = _; rw [List.eraseIdx_eq_take_drop_succ]
  clear hm ho'
  go_enter Try.func24, Try.ntmps24
  go_wp2_with fail
  go_region_held3 (fun _ => True) (trivial) ((first
    | (refine step_appSg (by rfl) _ _ (by rfl) w.heap.size _ [] (by rfl) hstA (l.take k) lo hi _ _ ⟨b, o, none⟩ HTL.out (by rfl) hrAA hl0 h1 hwAA ?_; intro v5 w5 hown5 hb5 _; rw [List.nil_append] at hown5; have hb05 := hbAA.trans hb5; have hz5 := hb05.size; have hri5 := (HM.out.below hb05 hB).dropI HO.out; clear hstA hrAA)
    | (refine step_appSg (by rfl) _ _ (by rfl) w.heap.size _ (l.take k) (by rfl) hown5 (l.drop (k + 1)) lo hi _ _ ⟨b, o', none⟩ HDL.out (by rfl) hri5 h1 h2 hz5 ?_; intro v6 w6 hown6 hb6 _)
    | fail))
  all_goals
    have hb06 := hb05.trans hb6
    rw [HE.out] at hown6
    obtain ⟨a7, c7, rfl, ho7⟩ := hown6.slice
    go_wp2
    go_ret
    exact ⟨_, _, rfl, ho7, hb06⟩

set_option maxRecDepth 100000 in
set_option maxHeartbeats 4000000 in
theorem s_DrawShows {n : Nat} {a : Option Addr} {c : Nat} {w : World} (hm : RB w w.heap.size a n) (hc : n ≤ c) (hl : n ≤ 1048576) :
    Calls Try.prog 21 #[.slice a n c] w (fun e w' => ∃ (n : Int) (a1 : Option Addr) (c1 : Nat) (r : List Int) (a2 : Option Addr) (c2 : Nat) (l : List Int), e = .returned (.tuple #[.int .i64 n, .slice a1 r.length c1, .slice a2 l.length c2]) ∧ (GotI' w w' 5 a1 c1 r ∧ GotI' w w' 6 a2 c2 l ∧ 1 ≤ n ∧ n ≤ 5) ∧ Below w.heap.size w w') := by
  go_enter Try.func21, Try.ntmps21
  go_wp2_with fail
  refine (s_newReader hm hc hl).mono ?_
  rintro e w1 ⟨rfl, hr1, hb1⟩
  have hlt1 := hr1.lt
  have hs1 := hb1.size
  have hb2 := (Below.refl w1.heap.size w1).alloc (Nat.le_refl _) (.cells #[.int .i64 3, .int .i64 4, .int .i64 2, .int .i64 5, .int .i64 1] 3)
  clear hm
  go_wp2_with fail
  refine (s_one (hr1.below hb2 hlt1) (by omega) (litW w1 _ [3, 4, 2, 5, 1] rfl) (by simp) (by simp) (.inr hlt1) (by simp)).mono ?_
  rintro e w2 ⟨n0, rfl, hn, hr2, hu2⟩
  have hn5 : 1 ≤ n0 ∧ n0 ≤ 5 := by simp at hn; omega
  obtain ⟨N, rfl⟩ := Int.eq_ofNat_of_zero_le (show 0 ≤ n0 by omega)
  have hN5 : 1 ≤ N ∧ N ≤ 5 := by omega
  have hU2 : UpB w.heap.size w1.heap.size w1 w2 := ((UpB.refl _ _ w1).below hb2 (by omega)).upd hu2
  have hs2 := hU2.size
  clear hr1 hb2 hu2 hn hn5
  go_wp2_with fail
  refine (s_aRun (n := N) hr2 (by omega) (by omega)).mono ?_
  rintro e w3 ⟨a3, c3, r, rfl, ho3, hA3, hr3, hU3⟩
  have hs3 := hU3.size
  obtain ⟨a4, c4, e4, hoi⟩ := ho3.slice
  cases e4
  have hri3 := hoi.ri
  have hcp := hoi.cap
  have hrl : r.length = N := hA3.1
  have HRL := Lib.hid hrl
  have hlw3 := hr3.lt
  have hU3w := hU2.trans (hU3.less (show w1.heap.size ≤ w2.heap.size by omega))
  have hst := OwnL.made w3 w3.heap.size (Nat.le_refl _)
  have hbA := (Below.refl w3.heap.size w3).alloc (Nat.le_refl _) (.cells #[] 3)
  have hrA := hr3.below hbA hlw3
  have hUA := (UpB.refl w.heap.size w3.heap.size w3).below hbA (Nat.le_refl _)
  clear hU2 hr2 ho3 hoi hA3 hU3 hrl
  go_wp2
  go_loopw [8, 9] (fun v i wr => ∃ (k : Nat) (a : Option Addr) (c : Nat) (l : List Int), k ≤ N ∧ i = .int .i64 k ∧ v = .slice a l.length c ∧ OwnL wr w3.heap.size (.slice a l.length c) l ∧ l.length ≤ k ∧ Rdr wr w.heap.size (20 + k) ∧ UpB w.heap.size w3.heap.size w3 wr) (fun _ i _ => N - (intOf i).toNat)
  case atStart => exact ⟨0, _, _, [], Nat.zero_le _, rfl, rfl, hst, Nat.le_refl _, hrA.mono (by omega), hUA⟩
  case round =>
    clear hst hbA hrA hUA
    obtain ⟨k, al, cl, l, hk, rfl, rfl, ho, hlk, hr, hU⟩ := hrel
    have hlw := hr.lt
    have hszr := hU.size
    by_cases hlt2 : k < N
    · go_wp2_with fail
      refine (s_pick hr (by omega) (by omega) (by omega)).mono ?_
      rintro e w4 ⟨u, rfl, hu, hr4, hu4⟩
      have ho4 := ho.upd hu4 (by omega)
      have hU4 := hU.upd hu4
      have hs4 := hU4.size
      clear ho hr hU hu4 hu
      by_cases e0 : u = 0
      case neg =>
        have hvne : (u == 0) = false := by rw [beq_eq_false_iff_ne]; exact e0
        go_wp2
        go_roundw
        case rel => exact ⟨k + 1, al, cl, l, by omega, by go_num, rfl, ho4, by omega, hr4.mono (by omega), hU4⟩
        case measure => simp [intOf]; omega
      subst e0
      have hrk : k < r.length := by have := HRL.out; omega
      obtain ⟨b5, o5, x5, ha5, _, hb5, hc5, hx5⟩ := (hri3.upB hU4 (Nat.le_refl _) (Nat.le_refl _) (by omega)).at hrk
      have hidx5 := idxI ha5 hrk c3
      clear ha5 hx5
      go_wp2_with (first
        | (at_builtin; refine wpList_app1 rfl _ _ rfl w3.heap.size _ l rfl ho4 x5 rfl (by omega) hs4 ?_; intro v6 w6 ho6 hb6)
        | go_in)
      obtain ⟨a6, c6, rfl, _⟩ := ho6.slice
      have hr6 := hr4.below hb6 (by omega)
      have hU6 := hU4.below hb6 (Nat.le_refl _)
      clear ho4 hr4 hU4 hb6
      go_roundw
      case rel => exact ⟨k + 1, a6, c6, l ++ [x5], by omega, by go_num, rfl, ho6, by simp; omega, hr6.mono (by omega), hU6⟩
      case measure => simp [intOf]; omega
    · have hr := hr.mono (show 20 + k ≤ 26 by omega)
      have hl5 : l.length ≤ 5 := by omega
      clear hlk
      by_cases hl1 : l.length ≤ 1
      · have hd0 : decide ((1 : Int) < (l.length : Int)) = false := decide_eq_false (by omega)
        have hd1 : decide (1 < l.length) = false := decide_eq_false (by omega)
        have ho5 := ho
        have hr5 := hr.mono (show 26 ≤ 40 by omega)
        have hU5 := hU
        obtain ⟨w5, rfl⟩ : ∃ x : World, x = wr := ⟨_, rfl⟩
        clear ho hr hU
        go_wp2_with fail
        refine (s_pick hr5 (by omega) (by omega) (by omega)).mono ?_
        rintro e w7 ⟨z, rfl, hz, hr7, hu7⟩
        have ho7 := ho5.upd hu7 (by omega)
        have hU7 := hU5.upd hu7
        have hs7 := hU7.size
        have hlw7 := hr7.lt
        clear ho5 hr5 hU5 hu7 hz
        by_cases f0 : z = 0
        · subst f0
          have hb8 := (Below.refl w7.heap.size w7).alloc (Nat.le_refl _) (.cells #[.int .i64 (-1), .int .i64 5, .int .i64 0] 3)
          go_wp2_with fail
          refine (s_one (hr7.below hb8 hlw7) (by omega) (litW w7 _ [-1, 5, 0] rfl) (by simp) (by simp) (.inr hlw7) (by simp)).mono ?_
          rintro e w8 ⟨x, rfl, _, hr8, hu8⟩
          have ho8 := (ho7.same fun g _ h2 => hb8.block g h2).upd hu8 (by omega)
          have hU8 := (hU7.below hb8 (by omega)).upd hu8
          have hs8 := hU8.size
          clear ho7 hU7 hr7 hb8 hu8
          go_wp2_with (first
            | (at_builtin; refine wpList_app1 rfl (.tmp 65) (.tmp 69) rfl w3.heap.size _ l rfl ho8 x rfl (by omega) hs8 ?_; intro v9 w9 ho9 hb9)
            | go_in)
          have hU9 := hU8.below hb9 (Nat.le_refl _)
          have hri9 := hri3.upB hU9 (Nat.le_refl _) (Nat.le_refl _) (by omega)
          have hs9 := hU9.size
          obtain ⟨a9, c9, rfl, hoi9⟩ := ho9.slice
          go_ret3
          exact ⟨N, a3, c3, r, a9, c9, l ++ [x], rfl, ⟨⟨hri9.wide (by omega) hs9, by have := HRL.out; omega, hcp⟩, ⟨hoi9.ri.wide (by omega) (Nat.le_refl _), by simp; omega, hoi9.cap⟩, by omega, by omega⟩, hb1.trans ((hU3w.trans (hU9.less (show w1.heap.size ≤ w3.heap.size by omega))).toBelow (by omega) (by omega))⟩
        have hri7 := hri3.upB hU7 (Nat.le_refl _) (Nat.le_refl _) (by omega)
        have hB7 := hb1.trans ((hU3w.trans (hU7.less (show w1.heap.size ≤ w3.heap.size by omega))).toBelow (by omega) (by omega))
        obtain ⟨a7, c7, e7', hoi7⟩ := ho7.slice
        cases e7'
        have hune : (z == 0) = false := by rw [beq_eq_false_iff_ne]; exact f0
        by_cases f1 : z = 1
        · subst f1
          obtain ⟨b9, o9, _, ha9, _⟩ := hri7.at (show 0 < r.length by have := HRL.out; omega)
          subst ha9
          obtain ⟨o', ho', hfrom⟩ := cutFrom (b := b9) (o := o9) (n := r.length) (c := c3) (k := 1) (z := 1) rfl (by have := HRL.out; omega) hcp
          have hrd := hri7.dropI ho'
          have HDL : Hid (r.length - 1 = (r.drop 1).length) := by show _ = _; simp
          clear ho'
          go_wp2
          go_ret3
          rw [HDL.out]
          exact ⟨N, _, _, r.drop 1, _, _, l, rfl, ⟨⟨hrd.wide (by omega) (by omega), by simp; have := HRL.out; omega, by simp; omega⟩, ⟨hoi7.ri.wide (by omega) (Nat.le_refl _), by omega, hoi7.cap⟩, by omega, by omega⟩, hB7⟩
        have hune1 : (z == 1) = false := by rw [beq_eq_false_iff_ne]; exact f1
        go_wp2
        go_ret3
        exact ⟨N, a3, c3, r, _, _, l, rfl, ⟨⟨hri7.wide (by omega) (by omega), by have := HRL.out; omega, hcp⟩, ⟨hoi7.ri.wide (by omega) (Nat.le_refl _), by omega, hoi7.cap⟩, by omega, by omega⟩, hB7⟩
      have hd1 : decide (1 < l.length) = true := decide_eq_true (by omega)
      go_wp2_with fail
      refine (s_pick hr (by omega) (by omega) (by omega)).mono ?_
      rintro e w4 ⟨u, rfl, hu, hr4, hu4⟩
      have ho4 := ho.upd hu4 (by omega)
      have hU4 := hU.upd hu4
      have hs4 := hU4.size
      clear ho hr hU hu4 hu
      by_cases e0 : u = 0
      case neg =>
        have hvne : (u == 0) = false := by rw [beq_eq_false_iff_ne]; exact e0
        have ho5 := ho4
        have hr5 := hr4.mono (show 27 ≤ 40 by omega)
        have hU5 := hU4
        obtain ⟨w5, rfl⟩ : ∃ x : World, x = w4 := ⟨_, rfl⟩
        have hszr := hs4
        clear ho4 hr4 hU4
        go_wp2_with fail
        refine (s_pick hr5 (by omega) (by omega) (by omega)).mono ?_
        rintro e w7 ⟨z, rfl, hz, hr7, hu7⟩
        have ho7 := ho5.upd hu7 (by omega)
        have hU7 := hU5.upd hu7
        have hs7 := hU7.size
        have hlw7 := hr7.lt
        clear ho5 hr5 hU5 hu7 hz
        by_cases f0 : z = 0
        · subst f0
          have hb8 := (Below.refl w7.heap.size w7).alloc (Nat.le_refl _) (.cells #[.int .i64 (-1), .int .i64 5, .int .i64 0] 3)
          go_wp2_with fail
          refine (s_one (hr7.below hb8 hlw7) (by omega) (litW w7 _ [-1, 5, 0] rfl) (by simp) (by simp) (.inr hlw7) (by simp)).mono ?_
          rintro e w8 ⟨x, rfl, _, hr8, hu8⟩
          have ho8 := (ho7.same fun g _ h2 => hb8.block g h2).upd hu8 (by omega)
          have hU8 := (hU7.below hb8 (by omega)).upd hu8
          have hs8 := hU8.size
          clear ho7 hU7 hr7 hb8 hu8
          go_wp2_with (first
            | (at_builtin; refine wpList_app1 rfl (.tmp 65) (.tmp 69) rfl w3.heap.size _ l rfl ho8 x rfl (by omega) hs8 ?_; intro v9 w9 ho9 hb9)
            | go_in)
          have hU9 := hU8.below hb9 (Nat.le_refl _)
          have hri9 := hri3.upB hU9 (Nat.le_refl _) (Nat.le_refl _) (by omega)
          have hs9 := hU9.size
          obtain ⟨a9, c9, rfl, hoi9⟩ := ho9.slice
          go_ret3
          exact ⟨N, a3, c3, r, a9, c9, l ++ [x], rfl, ⟨⟨hri9.wide (by omega) hs9, by have := HRL.out; omega, hcp⟩, ⟨hoi9.ri.wide (by omega) (Nat.le_refl _), by simp; omega, hoi9.cap⟩, by omega, by omega⟩, hb1.trans ((hU3w.trans (hU9.less (show w1.heap.size ≤ w3.heap.size by omega))).toBelow (by omega) (by omega))⟩
        have hri7 := hri3.upB hU7 (Nat.le_refl _) (Nat.le_refl _) (by omega)
        have hB7 := hb1.trans ((hU3w.trans (hU7.less (show w1.heap.size ≤ w3.heap.size by omega))).toBelow (by omega) (by omega))
        obtain ⟨a7, c7, e7', hoi7⟩ := ho7.slice
        cases e7'
        have hune : (z == 0) = false := by rw [beq_eq_false_iff_ne]; exact f0
        by_cases f1 : z = 1
        · subst f1
          obtain ⟨b9, o9, _, ha9, _⟩ := hri7.at (show 0 < r.length by have := HRL.out; omega)
          subst ha9
          obtain ⟨o', ho', hfrom⟩ := cutFrom (b := b9) (o := o9) (n := r.length) (c := c3) (k := 1) (z := 1) rfl (by have := HRL.out; omega) hcp
          have hrd := hri7.dropI ho'
          have HDL : Hid (r.length - 1 = (r.drop 1).length) := by show _ = _; simp
          clear ho'
          go_wp2
          go_ret3
          rw [HDL.out]
          exact ⟨N, _, _, r.drop 1, _, _, l, rfl, ⟨⟨hrd.wide (by omega) (by omega), by simp; have := HRL.out; omega, by simp; omega⟩, ⟨hoi7.ri.wide (by omega) (Nat.le_refl _), by omega, hoi7.cap⟩, by omega, by omega⟩, hB7⟩
        have hune1 : (z == 1) = false := by rw [beq_eq_false_iff_ne]; exact f1
        go_wp2
        go_ret3
        exact ⟨N, a3, c3, r, _, _, l, rfl, ⟨⟨hri7.wide (by omega) (by omega), by have := HRL.out; omega, hcp⟩, ⟨hoi7.ri.wide (by omega) (Nat.le_refl _), by omega, hoi7.cap⟩, by omega, by omega⟩, hB7⟩
      subst e0
      go_wp2_with fail
      refine (s_pick hr4 (by omega) (by omega) (by omega)).mono ?_
      rintro e w6 ⟨q, rfl, hq, hr6, hu6⟩
      have hq2 := hq.2 (by omega)
      obtain ⟨Q, rfl⟩ := Int.eq_ofNat_of_zero_le hq.1
      have hQ : Q < l.length := by omega
      have ho6 := ho4.upd hu6 (by omega)
      have hU6 := hU4.upd hu6
      have hs6 := hU6.size
      clear ho4 hr4 hU4 hu6 hq hq2
      obtain ⟨g, ea, hg1, hg2, ⟨y, hcy⟩, hfz, hput⟩ := ho6.put hQ
      subst ea
      obtain ⟨g0, e0', _, _, ⟨y0, hcy0⟩, hfz0, hput0⟩ := ho6.put (show 0 < l.length by omega)
      obtain rfl : g = g0 := by cases e0'; rfl
      have hidx0 : ∀ wx : World, (Instr.indexAt 29 (.slice (some ⟨g, 0, none⟩) l.length cl) (.int .i64 0)).run Try.prog wx = .ok (.pointer (some ⟨g, 0, none⟩)) wx := fun wx => idxI (a := some ⟨g, 0, none⟩) rfl (show 0 < l.length by omega) cl wx
      have hidxQ : ∀ wx : World, (Instr.indexAt 29 (.slice (some ⟨g, 0, none⟩) l.length cl) (.int .i64 (Q : Int))).run Try.prog wx = .ok (.pointer (some ⟨g, Q, none⟩)) wx := fun wx => by
        have h := idxI (a := some ⟨g, 0, none⟩) rfl hQ cl wx
        rwa [Nat.zero_add] at h
      have ho7 := hput0 y
      obtain ⟨g7, e7, _, _, ⟨y7, hcy7⟩, hfz7, hput7⟩ := ho7.put (show Q < (l.set 0 y).length by simp; omega)
      obtain rfl : g = g7 := by cases e7; rfl
      have ho8 := hput7 y0
      have hl8 : ((l.set 0 y).set Q y0).length = l.length := by simp
      obtain ⟨l8, hl8e⟩ : ∃ x, (l.set 0 y).set Q y0 = x := ⟨_, rfl⟩
      rw [hl8e] at ho8 hl8
      have hr7 : Rdr (w6.setCell ⟨g, 0, none⟩ (.int .i64 y)) w.heap.size 40 := (hr6.mono (by omega)).same (fun j hj => Below.heap_setCell _ _ _ _ (by show j ≠ g; omega)) (by simp [World.setCell])
      have hr8 : Rdr ((w6.setCell ⟨g, 0, none⟩ (.int .i64 y)).setCell ⟨g, Q, none⟩ (.int .i64 y0)) w.heap.size 40 := hr7.same (fun j hj => Below.heap_setCell _ _ _ _ (by show j ≠ g; omega)) (by simp [World.setCell])
      have hU8 := (hU6.set (p := ⟨g, 0, none⟩) hg1 (.int .i64 y)).set (p := ⟨g, Q, none⟩) hg1 (.int .i64 y0)
      rw [← hl8] at ho8
      have HL8 := Lib.hid hl8
      have hl85 : l8.length ≤ 5 := by omega
      clear hput hput0 hput7 ho7 ho6 hU6 hr6 hr7 hl8e hl8 e7 e0'
      obtain ⟨l0, rfl⟩ : ∃ x, x = l := ⟨_, rfl⟩
      have ho5 := ho8
      have hr5 := hr8
      have hU5 := hU8
      have hszr := hU8.size
      obtain ⟨l, rfl⟩ : ∃ x, x = l8 := ⟨_, rfl⟩
      clear ho8 hr8 hU8
      generalize hw5 : (w6.setCell ⟨g, 0, none⟩ (.int .i64 y)).setCell ⟨g, Q, none⟩ (.int .i64 y0) = w5 at ho5 hr5 hU5 hszr
      go_wp2_with fail
      try rw [hw5]
      rw [← HL8.out]
      clear hw5
      refine (s_pick hr5 (by omega) (by omega) (by omega)).mono ?_
      rintro e w7 ⟨z, rfl, hz, hr7, hu7⟩
      have ho7 := ho5.upd hu7 (by omega)
      have hU7 := hU5.upd hu7
      have hs7 := hU7.size
      have hlw7 := hr7.lt
      clear ho5 hr5 hU5 hu7 hz
      by_cases f0 : z = 0
      · subst f0
        have hb8 := (Below.refl w7.heap.size w7).alloc (Nat.le_refl _) (.cells #[.int .i64 (-1), .int .i64 5, .int .i64 0] 3)
        go_wp2_with fail
        refine (s_one (hr7.below hb8 hlw7) (by omega) (litW w7 _ [-1, 5, 0] rfl) (by simp) (by simp) (.inr hlw7) (by simp)).mono ?_
        rintro e w8 ⟨x, rfl, _, hr8, hu8⟩
        have ho8 := (ho7.same fun g _ h2 => hb8.block g h2).upd hu8 (by omega)
        have hU8 := (hU7.below hb8 (by omega)).upd hu8
        have hs8 := hU8.size
        clear ho7 hU7 hr7 hb8 hu8
        go_wp2_with (first
          | (at_builtin; refine wpList_app1 rfl (.tmp 65) (.tmp 69) rfl w3.heap.size _ l rfl ho8 x rfl (by omega) hs8 ?_; intro v9 w9 ho9 hb9)
          | go_in)
        have hU9 := hU8.below hb9 (Nat.le_refl _)
        have hri9 := hri3.upB hU9 (Nat.le_refl _) (Nat.le_refl _) (by omega)
        have hs9 := hU9.size
        obtain ⟨a9, c9, rfl, hoi9⟩ := ho9.slice
        go_ret3
        exact ⟨N, a3, c3, r, a9, c9, l ++ [x], rfl, ⟨⟨hri9.wide (by omega) hs9, by have := HRL.out; omega, hcp⟩, ⟨hoi9.ri.wide (by omega) (Nat.le_refl _), by simp; omega, hoi9.cap⟩, by omega, by omega⟩, hb1.trans ((hU3w.trans (hU9.less (show w1.heap.size ≤ w3.heap.size by omega))).toBelow (by omega) (by omega))⟩
      have hri7 := hri3.upB hU7 (Nat.le_refl _) (Nat.le_refl _) (by omega)
      have hB7 := hb1.trans ((hU3w.trans (hU7.less (show w1.heap.size ≤ w3.heap.size by omega))).toBelow (by omega) (by omega))
      obtain ⟨a7, c7, e7', hoi7⟩ := ho7.slice
      cases e7'
      have hune : (z == 0) = false := by rw [beq_eq_false_iff_ne]; exact f0
      by_cases f1 : z = 1
      · subst f1
        obtain ⟨b9, o9, _, ha9, _⟩ := hri7.at (show 0 < r.length by have := HRL.out; omega)
        subst ha9
        obtain ⟨o', ho', hfrom⟩ := cutFrom (b := b9) (o := o9) (n := r.length) (c := c3) (k := 1) (z := 1) rfl (by have := HRL.out; omega) hcp
        have hrd := hri7.dropI ho'
        have HDL : Hid (r.length - 1 = (r.drop 1).length) := by show _ = _; simp
        clear ho'
        go_wp2
        go_ret3
        rw [HDL.out]
        exact ⟨N, _, _, r.drop 1, _, _, l, rfl, ⟨⟨hrd.wide (by omega) (by omega), by simp; have := HRL.out; omega, by simp; omega⟩, ⟨hoi7.ri.wide (by omega) (Nat.le_refl _), by omega, hoi7.cap⟩, by omega, by omega⟩, hB7⟩
      have hune1 : (z == 1) = false := by rw [beq_eq_false_iff_ne]; exact f1
      go_wp2
      go_ret3
      exact ⟨N, a3, c3, r, _, _, l, rfl, ⟨⟨hri7.wide (by omega) (by omega), by have := HRL.out; omega, hcp⟩, ⟨hoi7.ri.wide (by omega) (Nat.le_refl _), by omega, hoi7.cap⟩, by omega, by omega⟩, hB7⟩

end Go.Proofs.Ytkboggohkhjciaa
