/- Walks: runs that are drawn. -/
import Derived.Test.YtkboggohkhjciaaUy
import Derived.Test.YtkboggohkhjciaaOz
import Derived.Test.YtkboggohkhjciaaUj
import Derived.Test.YtkboggohkhjciaaOh
namespace Go.Proofs.Ytkboggohkhjciaa
open Go.RowKit

theorem OwnZ.elem {w : World} {B : Nat} {v : Value} {mm : List (List Int)} (h : OwnZ w B v mm) {k j : Nat} {r : List Int} (hr : mm[k]? = Option.some r) (hj : j < r.length) :
    ∃ (g c b o c' : Nat) (x : Int), v = .slice (Option.some ⟨g, 0, none⟩) mm.length c ∧ g < w.heap.size ∧ w.cell? ⟨g, k, none⟩ = Option.some (.slice (Option.some ⟨b, o, none⟩) r.length c') ∧ B ≤ b ∧ b < w.heap.size ∧ b ≠ g ∧ r[j]? = Option.some x ∧ w.cell? ⟨b, o + j, none⟩ = Option.some (.int .i64 x) ∧ w.frozen? ⟨b, o + j, none⟩ = false := by
  have hlt := h.lt
  obtain ⟨xs, h1, h2⟩ := h
  obtain ⟨a', c', e1, e2, e3⟩ := h2 k r hr
  obtain ⟨b, o, ha, hP, x, hx, hc, hf⟩ := e3 j hj
  subst ha
  have hk := lt_of_at hr
  rcases h1.2 with ⟨rfl, h0⟩ | ⟨g, cap, cur, rfl, hb, hg, hn, hm, hs, ht⟩
  · omega
  · refine ⟨g, cap, b, o, c', x, rfl, (hlt g rfl).2, ?_, hP.1, hP.2.1, fun e => hP.2.2 (by rw [e]; rfl), hx, hc, hf⟩
    rw [cell_of_row w g k cur _ (0, 0) hg]
    rw [← ht, List.getElem?_take] at e1
    split at e1
    · simpa using e1
    · cases e1
def R6 (mm : List (List Int)) : Prop := ∀ r ∈ mm, 1 ≤ r.length ∧ r.length ≤ 6
def RR (w : World) (b K : Nat) (e : Ending) (w' : World) : Prop := ∃ (n : Int) (a : Option Addr) (c : Nat) (mm : List (List Int)), e = .returned (.tuple #[.int .i64 n, .slice a mm.length c]) ∧ OwnZ w' w.heap.size (.slice a mm.length c) mm ∧ ((0 ≤ n ∧ n ≤ 6) ∧ mm.length ≤ 21 ∧ R6 mm) ∧ Rdr w' b K ∧ UpB b w.heap.size w w'
theorem R6.nil : R6 [] := by simp [R6]
theorem R6.snoc {mm : List (List Int)} {r : List Int} (h : R6 mm) (hr : 1 ≤ r.length ∧ r.length ≤ 6) : R6 (mm ++ [r]) := fun q hq => by
  rcases List.mem_append.1 hq with hq | hq
  · exact h q hq
  · rw [List.mem_singleton.1 hq]; exact hr
theorem R6.put {mm mm' : List (List Int)} (h : R6 mm) (hh : ∀ (k : Nat) (r' : List Int), mm'[k]? = some r' → ∃ r : List Int, mm[k]? = some r ∧ r'.length = r.length) : R6 mm' := fun q hq => by
  obtain ⟨k, hk⟩ := List.mem_iff_getElem?.1 hq
  obtain ⟨r, h1, h2⟩ := hh k q hk
  rw [h2]; exact h r (List.mem_of_getElem? h1)
theorem tuL_ne {n : Nat} {runs : List (List Int)} (hn : 1 ≤ n) : ∀ r ∈ tuL (n : Int) runs, 1 ≤ r.length := by
  intro r hr
  cases hb : tuG (n : Int) runs
  · rw [tu_no hb] at hr; cases hr
  · rw [tu_yes hb] at hr
    simp only [tuA, List.mem_flatMap, List.mem_cons, List.not_mem_nil, or_false] at hr
    obtain ⟨q, hq, h⟩ := hr
    have h1 := okRs_row (tuG_m hb).1 hq
    rcases h with rfl | rfl
    · omega
    · rw [List.length_reverse]; omega

set_option maxRecDepth 100000 in
set_option maxHeartbeats 8000000 in
theorem s_someRuns {b K : Nat} {w : World} (hr : Rdr w b K) (hK : K ≤ 400000) :
    Calls Try.prog 41 #[.pointer (some ⟨b, 0, none⟩)] w (RR w b (K + 70)) := by
  have hlt := hr.lt
  have hb1 := (Below.refl w.heap.size w).alloc (Nat.le_refl _) (.cells #[.int .i64 3, .int .i64 4, .int .i64 2, .int .i64 3, .int .i64 5, .int .i64 1] 3)
  go_enter Try.func41, Try.ntmps41
  go_wp2_with fail
  refine (s_one (hr.below hb1 hlt) (by omega) (litW w _ [3, 4, 2, 3, 5, 1] rfl) (by simp) (by simp) (.inr (by omega)) (by simp)).mono ?_
  rintro e w1 ⟨n, rfl, hn, hr1, hu1⟩
  have hn5 : 1 ≤ n ∧ n ≤ 5 := by simp at hn; omega
  obtain ⟨N, rfl⟩ := Int.eq_ofNat_of_zero_le (show 0 ≤ n by omega)
  have hN5 : 1 ≤ N ∧ N ≤ 5 := by omega
  have hU1 : UpB b w.heap.size w w1 := ((UpB.refl b w.heap.size w).below hb1 (by omega)).upd hu1
  have hs1 := hU1.size
  clear hr hb1 hu1 hn
  obtain ⟨W1, hW1⟩ : ∃ W, w1.alloc (.cells #[] 29) = W := ⟨_, rfl⟩
  have hb2 : Below w1.heap.size w1 W1 := by rw [← hW1]; exact (Below.refl w1.heap.size w1).alloc (Nat.le_refl _) _
  have hs2 : w1.heap.size + 1 ≤ W1.heap.size := by rw [← hW1]; simp
  have ho1 : OwnZ W1 w.heap.size (.slice (some ⟨w1.heap.size, 0, none⟩) 0 0) [] := by rw [← hW1]; exact OwnZ.made w1 w.heap.size hs1
  have hb3 := (Below.refl W1.heap.size W1).alloc (Nat.le_refl _) (.cells #[.int .i64 2, .int .i64 3, .int .i64 1, .int .i64 4, .int .i64 6, .int .i64 0] 3)
  have hlt1 := hr1.lt
  go_wp2_with fail
  refine (s_one ((hr1.below hb2 hlt1).below hb3 (by omega)) (by omega) (litW W1 _ [2, 3, 1, 4, 6, 0] rfl) (by simp) (by simp) (.inr (by omega)) (by simp)).mono ?_
  rintro e w2 ⟨k, rfl, hk, hr2, hu2⟩
  have hk6 : 0 ≤ k ∧ k ≤ 6 := by simp at hk; omega
  have ho2 := (ho1.below hb3).upd hu2 (by omega)
  have hU2 : UpB b w.heap.size w w2 := ((hU1.below hb2 (by omega)).below hb3 (by omega)).upd hu2
  have hs3 := hU2.size
  clear hr1 hb2 hb3 ho1 hu2 hk hs2 hU1 hn5
  go_wp2
  go_loopw [5] (fun v wr => ∃ (a : Option Addr) (c : Nat) (l : List (List Int)), v = .slice a l.length c ∧ OwnZ wr w.heap.size (.slice a l.length c) l ∧ l.length ≤ 6 ∧ Hid (R6 l) ∧ Rdr wr b (K + 2 + l.length * 6) ∧ UpB b w.heap.size w wr) (fun v _ => k.toNat - lenV v)
  case atStart => exact ⟨_, _, [], rfl, ho2, by simp, R6.nil, by simpa using hr2, hU2⟩
  case round =>
    clear ho2 hr2 hU2
    obtain ⟨al, cl, l, rfl, ho, hl9, hLl, hr, hU⟩ := hrel
    have hlw := hr.lt
    have hszr := hU.size
    clear hW1
    by_cases hlt2 : (l.length : Int) < k
    · go_wp2_with fail
      refine (s_aRun (n := N) hr (by omega) (by omega)).mono ?_
      rintro e w6 ⟨a6, c6, r, rfl, ho6, hA6, hr6, hU6⟩
      have hrl6 : 1 ≤ r.length ∧ r.length ≤ 6 := by have := hA6.1; omega
      have hs6 := hU6.size
      have hX6 := ho.upB hU6 hlt
      have hoff : ∀ g, (Value.slice al l.length cl).ownBlock = some g → g < wr.heap.size := fun g hg => (ho.lt g hg).2
      obtain ⟨a7, c7, e7, hoi⟩ := ho6.slice
      cases e7
      have hri := hoi.oi
      have hcp := hoi.cap
      have HOF := Lib.hid hoff
      have hU6l := hU6.less (show w.heap.size ≤ wr.heap.size by omega)
      clear ho6 hA6 hoff ho hU6 hoi
      go_wp2_with (first
        | (at_builtin; refine wpList_appZ rfl (.tmp 18) (.tmp 22) rfl w.heap.size wr.heap.size w6.heap.size _ l rfl hX6 (by omega) r a6 r.length c6 rfl hri hcp (by omega) (Nat.le_refl _) HOF.out w6.heap.size rfl rfl (by omega) ?_; intro v8 w8 hown8 hb8 _; obtain ⟨a8, c8, hv8, _⟩ := hown8.riic; subst hv8)
        | go_in)
      have hr8 := hr6.below hb8 hlt
      have hU8 := (hU.trans hU6l).below hb8 (Nat.le_refl _)
      have HL8 := Lib.hid (R6.snoc hLl.out hrl6)
      clear hX6 hri hr6 hU6l hU hb8
      go_roundw
      case rel => exact ⟨a8, c8, l ++ [r], by simp, hown8, by simp; omega, HL8, hr8.mono (by simp; omega), hU8⟩
      case measure => simp [lenV]; omega
    · have hr := hr.mono (show K + 2 + l.length * 6 ≤ K + 38 by omega)
      go_wp2_with fail
      refine (s_pick hr (by omega) (by omega) (by omega)).mono ?_
      rintro e wq ⟨v, rfl, hv, hrq, huq⟩
      have hv4 := hv.2 (by omega)
      have hv0 := hv.1
      have hoq := ho.upd huq hlt
      have hUq := hU.upd huq
      have hszq := hUq.size
      have hlq := hrq.lt
      have hlen : l.length ≤ 20 := by omega
      clear ho hr hU huq hv
      by_cases e0 : v = 0
      · subst e0
        have HG : Hid (∀ r ∈ l, r.length ≤ 9223372036854775807) := fun r hr => by have := hLl.out r hr; omega
        obtain ⟨a3, c3, e3, hX⟩ := hoq.riic
        cases e3
        go_wp2_with fail
        refine (s_TurnRunsX (by omega) (by omega) hX.rii (by omega) HG.out (Nat.le_refl _)).mono ?_
        rintro e w4 ⟨a4, c4, rfl, h4, b4⟩
        have ho4 := (OwnZ.ofLL h4).base (show w.heap.size ≤ wq.heap.size by omega)
        have hr4 := hrq.below b4 hlq
        have hU4 := hUq.below b4 (by omega)
        have hs4 := hU4.size
        have HL4 : Hid (R6 (tuL (N : Int) l)) := fun r hr => ⟨tuL_ne hN5.1 r hr, by have := tuL_row r hr; omega⟩
        have hlen4 := @tuL_len (N : Int) l
        have hlw4 := hr4.lt
        obtain ⟨L, hL⟩ : ∃ L, tuL (N : Int) l = L := ⟨_, rfl⟩
        rw [hL] at ho4 HL4 hlen4
        rw [hL]
        clear hL h4 b4 hX hoq hrq hUq HG hLl hlen hlt2 hl9
        go_wp2_with fail
        refine (s_pick hr4 (by omega) (by omega) (by omega)).mono ?_
        rintro e w5 ⟨u, rfl, hu, hr5, hu5⟩
        have hu0 := hu.1
        have ho5 := ho4.upd hu5 hlt
        have hU5 := hU4.upd hu5
        have hs5 := hU5.size
        have hlw5 := hr5.lt
        have hss5 := hu5.size
        clear ho4 hr4 hU4 hu5 hu hs4 hlw4
        by_cases f0 : u = 0
        · subst f0
          have hw1 : IntKind.i64.wrap ((N : Int) + 1) = ((N + 1 : Nat) : Int) := by rw [IntWalk.i64_in _ (by omega)]; omega
          go_wp2_with fail
          refine (s_aRun (n := N + 1) hr5 (by omega) (by omega)).mono ?_
          rintro e w6 ⟨a6, c6, r, rfl, ho6, hA6, hr6, hU6⟩
          have hrl6 : 1 ≤ r.length ∧ r.length ≤ 6 := by have := hA6.1; omega
          have hs6 := hU6.size
          have hX6 := ho5.upB hU6 hlt
          have hoff : ∀ g, (Value.slice a4 L.length c4).ownBlock = some g → g < w5.heap.size := fun g hg => (ho5.lt g hg).2
          obtain ⟨a7, c7, e7, hoi⟩ := ho6.slice
          cases e7
          have hri := hoi.oi
          have hcp := hoi.cap
          have HOF := Lib.hid hoff
          have hU6l := hU6.less (show w.heap.size ≤ w5.heap.size by omega)
          clear ho6 hA6 hoff ho5 hU6 hoi hw1
          go_wp2_with (first
            | (at_builtin; refine wpList_appZ rfl (.tmp 35) (.tmp 40) rfl w.heap.size w5.heap.size w6.heap.size _ L rfl hX6 (by omega) r a6 r.length c6 rfl hri hcp (by omega) (Nat.le_refl _) HOF.out w6.heap.size rfl rfl (by omega) ?_; intro v8 w8 hown8 hb8 _; obtain ⟨a8, c8, hv8, _⟩ := hown8.riic; subst hv8)
            | go_in)
          have hr8 := hr6.below hb8 hlt
          have hU8 := (hU5.trans hU6l).below hb8 (Nat.le_refl _)
          have HL8 := Lib.hid (R6.snoc HL4.out hrl6)
          go_ret2
          exact ⟨N, a8, c8, L ++ [r], by simp, hown8, ⟨⟨by omega, by omega⟩, by simp; omega, HL8.out⟩, hr8.mono (by omega), hU8⟩
        have hune : (u == 0) = false := by rw [beq_eq_false_iff_ne]; exact f0
        by_cases f1 : u = 1
        · subst f1
          by_cases hL0 : L.length = 0
          · obtain rfl := List.eq_nil_of_length_eq_zero hL0
            go_wp2
            go_ret2
            exact ⟨N, a4, c4, [], rfl, ho5, ⟨⟨by omega, by omega⟩, by simp, HL4.out⟩, hr5.mono (by omega), hU5⟩
          · have hd1 : decide (0 < L.length) = true := decide_eq_true (by omega)
            obtain ⟨r, hr0⟩ := at_of_lt (m := L) (k := 0) (by omega)
            have hrl := HL4.out r (List.mem_of_getElem? hr0)
            obtain ⟨q, hq⟩ : ∃ q : Nat, q + 1 = r.length := ⟨r.length - 1, by omega⟩
            obtain ⟨g, c', b1, o1, c1, x0, e1, hgs, hcg, hB1, hb1s, hbg, _, hc0, hfr⟩ := ho5.elem hr0 (show 0 < r.length by omega)
            cases e1
            obtain ⟨g2, c2, b2, o2, c3, x1, e2, _, hcg2, _, _, _, _, hcq, _⟩ := ho5.elem hr0 (show q < r.length by omega)
            cases e2
            obtain ⟨rfl, rfl, rfl⟩ : b1 = b2 ∧ o1 = o2 ∧ c1 = c3 := by rw [hcg] at hcg2; cases hcg2; exact ⟨rfl, rfl, rfl⟩
            rw [Nat.add_zero] at hc0 hfr
            have hidx0 : ∀ wx : World, (Instr.indexAt 23 (.slice (some ⟨g, 0, none⟩) L.length c4) (.int .i64 0)).run Try.prog wx = .ok (.pointer (some ⟨g, 0, none⟩)) wx := fun wx => idxII (a := some ⟨g, 0, none⟩) rfl (show 0 < L.length by omega) c4 wx
            have hidx1 : ∀ wx : World, (Instr.indexAt 29 (.slice (some ⟨b1, o1, none⟩) r.length c1) (.int .i64 0)).run Try.prog wx = .ok (.pointer (some ⟨b1, o1, none⟩)) wx := fun wx => idxI (a := some ⟨b1, o1, none⟩) rfl (show 0 < r.length by omega) c1 wx
            have hidxq : ∀ wx : World, (Instr.indexAt 29 (.slice (some ⟨b1, o1, none⟩) r.length c1) (.int .i64 (q : Int))).run Try.prog wx = .ok (.pointer (some ⟨b1, o1 + q, none⟩)) wx := fun wx => idxI (a := some ⟨b1, o1, none⟩) rfl (show q < r.length by omega) c1 wx
            have hwq : IntKind.i64.wrap ((r.length : Int) - 1) = (q : Int) := by rw [IntWalk.i64_in _ (by omega)]; omega
            have HQ := Lib.hid hq
            have HS : Hid (∀ w' : World, Below w5.heap.size w5 w' ∨ True → (∀ h : Nat, h < w5.heap.size → h ≠ b → w'.heap[h]? = w5.heap[h]?) → (w'.cell? ⟨g, 0, none⟩ = some (.slice (some ⟨b1, o1, none⟩) r.length c1) ∧ w'.cell? ⟨b1, o1 + q, none⟩ = some (.int .i64 x1)) ∧ w'.cell? ⟨b1, o1, none⟩ = some (.int .i64 x0) ∧ w'.frozen? ⟨b1, o1, none⟩ = false) := fun w' _ hh => by
              have k1 := hh g hgs (by have := (ho5.lt g rfl).1; omega)
              have k2 := hh b1 hb1s (by omega)
              exact ⟨⟨(World.cell?_of_block (w := w5) k1).trans hcg, (World.cell?_of_block (w := w5) k2).trans hcq⟩, (World.cell?_of_block (w := w5) k2).trans hc0, (World.frozen?_of_block (w := w5) k2).trans hfr⟩
            have HP := Lib.hid (fun (z : Int) (w' : World) (h : OwnZ w' w.heap.size (.slice (some ⟨g, 0, none⟩) L.length c4) L) => h.put (p := ⟨b1, o1, none⟩) z (fun g' e => by have e2 : g = g' := Option.some.inj e; rw [← e2]; exact hbg))
            have hgb : g ≠ b := by have := (ho5.lt g rfl).1; omega
            have HB1 : Hid (w.heap.size ≤ b1) := hB1
            clear hcg hcg2 hc0 hcq hq hr0 hrl hfr
            go_wp2_with fail
            refine wp_region_L 17 (fun w' => w'.cell? ⟨g, 0, none⟩ = some (.slice (some ⟨b1, o1, none⟩) r.length c1) ∧ w'.cell? ⟨b1, o1 + q, none⟩ = some (.int .i64 x1)) (by kernel_rfl) ?_
            have hS0 := (HS.out w5.drew (.inr trivial) (fun _ _ _ => rfl)).1
            refine wpAnyL_take (i := 0) (v := ?_) rfl rfl (by kernel_rfl) rfl (by kernel_rfl) (by kernel_rfl) (by kernel_rfl) (fun _ _ _ h => h) (Or.inl ⟨by rfl, ?_⟩) hS0 ?_
            rotate_left
            · intro w hSw; (try dsimp only at hSw); go_simp; (try with_reducible rfl)
            try simp only [Act.put, List.setIfInBounds_toArray, List.set_cons_zero, List.set_cons_succ]
            refine wpAnyL_take (i := 1) (v := ?_) rfl rfl (by kernel_rfl) rfl (by kernel_rfl) (by kernel_rfl) (by kernel_rfl) (fun _ _ _ h => h) (Or.inl ⟨by rfl, ?_⟩) hS0 ?_
            rotate_left
            · intro w hSw; (try dsimp only at hSw); go_simp; (try with_reducible rfl)
            try simp only [Act.put, List.setIfInBounds_toArray, List.set_cons_zero, List.set_cons_succ]
            refine wpAnyL_take (i := 2) (v := ?_) rfl rfl (by kernel_rfl) rfl (by kernel_rfl) (by kernel_rfl) (by kernel_rfl) (fun _ _ _ h => h) (Or.inl ⟨by rfl, ?_⟩) hS0 ?_
            rotate_left
            · intro w hSw; (try dsimp only at hSw); go_simp; (try with_reducible rfl)
            try simp only [Act.put, List.setIfInBounds_toArray, List.set_cons_zero, List.set_cons_succ]
            refine wpAnyL_take (i := 3) (v := ?_) rfl rfl (by kernel_rfl) rfl (by kernel_rfl) (by kernel_rfl) (by kernel_rfl) (fun _ _ _ h => h) (Or.inl ⟨by rfl, ?_⟩) hS0 ?_
            rotate_left
            · intro w hSw; (try dsimp only at hSw); go_simp; (try with_reducible rfl)
            try simp only [Act.put, List.setIfInBounds_toArray, List.set_cons_zero, List.set_cons_succ]
            refine wpAnyL_take (i := 4) (v := ?_) rfl rfl (by kernel_rfl) rfl (by kernel_rfl) (by kernel_rfl) (by kernel_rfl) (fun _ _ _ h => h) (Or.inl ⟨by rfl, ?_⟩) hS0 ?_
            rotate_left
            · intro w hSw; (try dsimp only at hSw); go_simp; (try with_reducible rfl)
            try simp only [Act.put, List.setIfInBounds_toArray, List.set_cons_zero, List.set_cons_succ]
            refine wpAnyL_take (i := 5) (v := ?_) rfl rfl (by kernel_rfl) rfl (by kernel_rfl) (by kernel_rfl) (by kernel_rfl) (fun _ _ _ h => h) (Or.inl ⟨by rfl, ?_⟩) hS0 ?_
            rotate_left
            · intro w hSw; (try dsimp only at hSw); go_simp; (try with_reducible rfl)
            try simp only [Act.put, List.setIfInBounds_toArray, List.set_cons_zero, List.set_cons_succ]
            refine wpAnyL_take (i := 6) (v := ?_) rfl rfl (by kernel_rfl) rfl (by kernel_rfl) (by kernel_rfl) (by kernel_rfl) (fun _ _ _ h => h) (Or.inl ⟨by rfl, ?_⟩) hS0 ?_
            rotate_left
            · intro w hSw; (try dsimp only at hSw); go_simp; (try with_reducible rfl)
            try simp only [Act.put, List.setIfInBounds_toArray, List.set_cons_zero, List.set_cons_succ]
            refine wpAnyL_take (i := 7) (v := ?_) rfl rfl (by kernel_rfl) rfl (by kernel_rfl) (by kernel_rfl) (by kernel_rfl) (fun _ _ _ h => h) (Or.inl ⟨by rfl, ?_⟩) hS0 ?_
            rotate_left
            · intro w hSw; (try dsimp only at hSw); go_simp; (try with_reducible rfl)
            try simp only [Act.put, List.setIfInBounds_toArray, List.set_cons_zero, List.set_cons_succ]
            refine wpAnyL_take (i := 8) (v := ?_) rfl rfl (by kernel_rfl) rfl (by kernel_rfl) (by kernel_rfl) (by kernel_rfl) (fun _ _ _ h => h) (Or.inl ⟨by rfl, ?_⟩) hS0 ?_
            rotate_left
            · intro w hSw; (try dsimp only at hSw); go_simp; (try with_reducible rfl)
            try simp only [Act.put, List.setIfInBounds_toArray, List.set_cons_zero, List.set_cons_succ]
            refine wpAnyL_take (i := 9) (v := ?_) rfl rfl (by kernel_rfl) rfl (by kernel_rfl) (by kernel_rfl) (by kernel_rfl) (fun _ _ _ h => h) (Or.inl ⟨by rfl, ?_⟩) hS0 ?_
            rotate_left
            · intro w hSw; (try dsimp only at hSw); go_simp; (try with_reducible rfl)
            try simp only [Act.put, List.setIfInBounds_toArray, List.set_cons_zero, List.set_cons_succ]
            refine wpAnyL_take (i := 10) (v := ?_) rfl rfl (by kernel_rfl) rfl (by kernel_rfl) (by kernel_rfl) (by kernel_rfl) (fun _ _ _ h => h) (Or.inl ⟨by rfl, ?_⟩) hS0 ?_
            rotate_left
            · intro w hSw; (try dsimp only at hSw); go_simp; (try with_reducible rfl)
            try simp only [Act.put, List.setIfInBounds_toArray, List.set_cons_zero, List.set_cons_succ]
            refine wpAnyL_take (i := 11) (v := ?_) rfl rfl (by kernel_rfl) rfl (by kernel_rfl) (by kernel_rfl) (by kernel_rfl) (fun _ _ _ h => h) (Or.inl ⟨by rfl, ?_⟩) hS0 ?_
            rotate_left
            · intro w hSw; (try dsimp only at hSw); go_simp; (try with_reducible rfl)
            try simp only [Act.put, List.setIfInBounds_toArray, List.set_cons_zero, List.set_cons_succ]
            refine wpAnyL_take (i := 12) (v := ?_) rfl rfl (by kernel_rfl) rfl (by kernel_rfl) (by kernel_rfl) (by kernel_rfl) (fun _ _ _ h => h) (Or.inl ⟨by rfl, ?_⟩) hS0 ?_
            rotate_left
            · intro w hSw; (try dsimp only at hSw); go_simp; (try with_reducible rfl)
            try simp only [Act.put, List.setIfInBounds_toArray, List.set_cons_zero, List.set_cons_succ]
            refine wpAnyL_take (i := 13) (v := ?_) rfl rfl (by kernel_rfl) rfl (by kernel_rfl) (by kernel_rfl) (by kernel_rfl) (fun _ _ _ h => h) (Or.inl ⟨by rfl, ?_⟩) hS0 ?_
            rotate_left
            · intro w hSw; (try dsimp only at hSw); go_simp; (try with_reducible rfl)
            try simp only [Act.put, List.setIfInBounds_toArray, List.set_cons_zero, List.set_cons_succ]
            refine wpAnyL_one (i := 14) (by kernel_rfl) rfl (fun K3 hK3 => ?_)
            go_simp
            have hb6 := ((Below.refl w5.heap.size w5).alloc (Nat.le_refl _) (.cells #[.int .i64 (-1), .int .i64 5, .int .i64 x1] 3)).drew
            refine hK3.out _ _ (HS.out _ (.inr trivial) (fun h hh _ => hb6.block h hh)).1 (fun _ => ?_)
            clear hK3 K3
            try simp only [Act.put, List.setIfInBounds_toArray, List.set_cons_zero, List.set_cons_succ]
            refine wpAnyL_one (i := 15) (by kernel_rfl) rfl (fun K3 hK3 => ?_)
            go_simp
            refine (s_one (K := K + 42) (hr5.below hb6 hlw5 |>.mono (by omega)) (by omega) ((litW w5 #[.int .i64 (-1), .int .i64 5, .int .i64 x1] [-1, 5, x1] rfl).same (w' := (w5.alloc (.cells #[.int .i64 (-1), .int .i64 5, .int .i64 x1] 3)).drew) (fun _ _ _ => rfl)) (by simp) (by simp) (.inr hlw5) (by simp)).mono ?_
            rintro e w7 ⟨z, rfl, _, hr7, hu7⟩
            have hs7 := hu7.size
            have hk7 : ∀ h : Nat, h < w5.heap.size → h ≠ b → w7.heap[h]? = w5.heap[h]? := fun h hh hn => (hu7.block h (by simp; omega) (by omega)).trans (hb6.block h hh)
            have hS7 := HS.out w7 (.inr trivial) hk7
            refine hK3.out _ _ hS7.1 (fun _ => ?_)
            clear hK3 K3
            try simp only [Act.put, List.setIfInBounds_toArray, List.set_cons_zero, List.set_cons_succ]
            refine wpAnyL_one (i := 16) (by kernel_rfl) rfl (fun K3 hK3 => ?_)
            go_simp
            refine hK3.out _ _ hS7.1 (fun _ => ?_)
            clear hK3 K3
            try simp only [Act.put, List.setIfInBounds_toArray, List.set_cons_zero, List.set_cons_succ]
            refine wpAnyL_last (by kernel_rfl) rfl (fun K3 hK3 => ?_)
            have e5 := hS7.2.1
            have f5 := hS7.2.2
            go_simp
            refine hK3.out _ _ ?_
            clear hK3 K3
            try simp only [Act.put, List.setIfInBounds_toArray, List.set_cons_zero, List.set_cons_succ]
            refine wpAnyL_done (by kernel_rfl) ?_ _
            refine NoPanic.normal ?_
            have ho7 := (ho5.below hb6).upd hu7 hlt
            obtain ⟨mm', hm1, hm2, hm3⟩ := HP.out z w7 ho7
            have hU7 := (hU5.below hb6 (by omega)).upd hu7
            have hU8 := hU7.set (p := ⟨b1, o1, none⟩) HB1.out (.int .i64 z)
            have hr8 : Rdr (w7.setCell ⟨b1, o1, none⟩ (.int .i64 z)) b (K + 70) := (hr7.mono (by omega)).same (fun k hk => Below.heap_setCell _ _ _ _ (by have := HB1.out; simp; omega)) (by simp)
            have HL8 := Lib.hid (R6.put HL4.out hm2)
            have hm20 : mm'.length ≤ 20 := by omega
            obtain ⟨Ln, hLn⟩ : ∃ x, L.length = x := ⟨_, rfl⟩
            rw [hLn] at hm1 hm3
            rw [← hm1] at hm3
            have HM1 := Lib.hid hm1
            have HLn := Lib.hid hLn
            clear hm1 hm2 hLn ho5 hb6 hu7 hU7 ho7 hr5 hS7 hk7
            rw [HLn.out, ← HM1.out]
            go_wp2
            go_ret2
            exact ⟨N, _, _, mm', rfl, hm3, ⟨⟨by omega, by omega⟩, by omega, HL8.out⟩, hr8, hU8⟩
        have hune1 : (u == 1) = false := by rw [beq_eq_false_iff_ne]; exact f1
        by_cases f2 : u = 2
        · subst f2
          have hw1 : IntKind.i64.wrap ((N : Int) + 1) = (N : Int) + 1 := by rw [IntWalk.i64_in _ (by omega)]
          have hb6 := (Below.refl w5.heap.size w5).alloc (Nat.le_refl _) (.cells #[.int .i64 0, .int .i64 6, .int .i64 ((N : Int) + 1)] 3)
          go_wp2_with fail
          refine (s_one (hr5.below hb6 hlw5) (by omega) (litW w5 _ [0, 6, (N : Int) + 1] rfl) (by simp) (by simp) (.inr hlw5) (by simp)).mono ?_
          rintro e w6 ⟨x, rfl, hx, hr6, hu6⟩
          have hx6 : 0 ≤ x ∧ x ≤ 6 := by simp at hx; omega
          have ho6 := (ho5.below hb6).upd hu6 hlt
          have hU6 := (hU5.below hb6 (by omega)).upd hu6
          clear hx
          go_wp2
          go_ret2
          exact ⟨x, a4, c4, L, rfl, ho6, ⟨hx6, by omega, HL4.out⟩, hr6.mono (by omega), hU6⟩
        have hune2 : (u == 2) = false := by rw [beq_eq_false_iff_ne]; exact f2
        go_wp2
        go_ret2
        exact ⟨N, a4, c4, L, rfl, ho5, ⟨⟨by omega, by omega⟩, by omega, HL4.out⟩, hr5.mono (by omega), hU5⟩
      · have hvne : (v == 0) = false := by rw [beq_eq_false_iff_ne]; exact e0
        have ho4 := hoq
        have hr4 := hrq
        have hU4 := hUq
        have HL4 := hLl
        have hlen4 := hlen
        have hlw4 := hlq
        have hs4 := hszq
        obtain ⟨L, rfl⟩ : ∃ x, x = l := ⟨_, rfl⟩
        obtain ⟨a4, rfl⟩ : ∃ x, x = al := ⟨_, rfl⟩
        obtain ⟨c4, rfl⟩ : ∃ x, x = cl := ⟨_, rfl⟩
        obtain ⟨w4, rfl⟩ : ∃ x : World, x = wq := ⟨_, rfl⟩
        clear hoq hrq hUq hLl hlt2 hl9
        go_wp2_with fail
        refine (s_pick hr4 (by omega) (by omega) (by omega)).mono ?_
        rintro e w5 ⟨u, rfl, hu, hr5, hu5⟩
        have hu0 := hu.1
        have ho5 := ho4.upd hu5 hlt
        have hU5 := hU4.upd hu5
        have hs5 := hU5.size
        have hlw5 := hr5.lt
        have hss5 := hu5.size
        clear ho4 hr4 hU4 hu5 hu hs4 hlw4
        by_cases f0 : u = 0
        · subst f0
          have hw1 : IntKind.i64.wrap ((N : Int) + 1) = ((N + 1 : Nat) : Int) := by rw [IntWalk.i64_in _ (by omega)]; omega
          go_wp2_with fail
          refine (s_aRun (n := N + 1) hr5 (by omega) (by omega)).mono ?_
          rintro e w6 ⟨a6, c6, r, rfl, ho6, hA6, hr6, hU6⟩
          have hrl6 : 1 ≤ r.length ∧ r.length ≤ 6 := by have := hA6.1; omega
          have hs6 := hU6.size
          have hX6 := ho5.upB hU6 hlt
          have hoff : ∀ g, (Value.slice a4 L.length c4).ownBlock = some g → g < w5.heap.size := fun g hg => (ho5.lt g hg).2
          obtain ⟨a7, c7, e7, hoi⟩ := ho6.slice
          cases e7
          have hri := hoi.oi
          have hcp := hoi.cap
          have HOF := Lib.hid hoff
          have hU6l := hU6.less (show w.heap.size ≤ w5.heap.size by omega)
          clear ho6 hA6 hoff ho5 hU6 hoi hw1
          go_wp2_with (first
            | (at_builtin; refine wpList_appZ rfl (.tmp 35) (.tmp 40) rfl w.heap.size w5.heap.size w6.heap.size _ L rfl hX6 (by omega) r a6 r.length c6 rfl hri hcp (by omega) (Nat.le_refl _) HOF.out w6.heap.size rfl rfl (by omega) ?_; intro v8 w8 hown8 hb8 _; obtain ⟨a8, c8, hv8, _⟩ := hown8.riic; subst hv8)
            | go_in)
          have hr8 := hr6.below hb8 hlt
          have hU8 := (hU5.trans hU6l).below hb8 (Nat.le_refl _)
          have HL8 := Lib.hid (R6.snoc HL4.out hrl6)
          go_ret2
          exact ⟨N, a8, c8, L ++ [r], by simp, hown8, ⟨⟨by omega, by omega⟩, by simp; omega, HL8.out⟩, hr8.mono (by omega), hU8⟩
        have hune : (u == 0) = false := by rw [beq_eq_false_iff_ne]; exact f0
        by_cases f1 : u = 1
        · subst f1
          by_cases hL0 : L.length = 0
          · obtain rfl := List.eq_nil_of_length_eq_zero hL0
            go_wp2
            go_ret2
            exact ⟨N, a4, c4, [], rfl, ho5, ⟨⟨by omega, by omega⟩, by simp, HL4.out⟩, hr5.mono (by omega), hU5⟩
          · have hd1 : decide (0 < L.length) = true := decide_eq_true (by omega)
            obtain ⟨r, hr0⟩ := at_of_lt (m := L) (k := 0) (by omega)
            have hrl := HL4.out r (List.mem_of_getElem? hr0)
            obtain ⟨q, hq⟩ : ∃ q : Nat, q + 1 = r.length := ⟨r.length - 1, by omega⟩
            obtain ⟨g, c', b1, o1, c1, x0, e1, hgs, hcg, hB1, hb1s, hbg, _, hc0, hfr⟩ := ho5.elem hr0 (show 0 < r.length by omega)
            cases e1
            obtain ⟨g2, c2, b2, o2, c3, x1, e2, _, hcg2, _, _, _, _, hcq, _⟩ := ho5.elem hr0 (show q < r.length by omega)
            cases e2
            obtain ⟨rfl, rfl, rfl⟩ : b1 = b2 ∧ o1 = o2 ∧ c1 = c3 := by rw [hcg] at hcg2; cases hcg2; exact ⟨rfl, rfl, rfl⟩
            rw [Nat.add_zero] at hc0 hfr
            have hidx0 : ∀ wx : World, (Instr.indexAt 23 (.slice (some ⟨g, 0, none⟩) L.length c4) (.int .i64 0)).run Try.prog wx = .ok (.pointer (some ⟨g, 0, none⟩)) wx := fun wx => idxII (a := some ⟨g, 0, none⟩) rfl (show 0 < L.length by omega) c4 wx
            have hidx1 : ∀ wx : World, (Instr.indexAt 29 (.slice (some ⟨b1, o1, none⟩) r.length c1) (.int .i64 0)).run Try.prog wx = .ok (.pointer (some ⟨b1, o1, none⟩)) wx := fun wx => idxI (a := some ⟨b1, o1, none⟩) rfl (show 0 < r.length by omega) c1 wx
            have hidxq : ∀ wx : World, (Instr.indexAt 29 (.slice (some ⟨b1, o1, none⟩) r.length c1) (.int .i64 (q : Int))).run Try.prog wx = .ok (.pointer (some ⟨b1, o1 + q, none⟩)) wx := fun wx => idxI (a := some ⟨b1, o1, none⟩) rfl (show q < r.length by omega) c1 wx
            have hwq : IntKind.i64.wrap ((r.length : Int) - 1) = (q : Int) := by rw [IntWalk.i64_in _ (by omega)]; omega
            have HQ := Lib.hid hq
            have HS : Hid (∀ w' : World, Below w5.heap.size w5 w' ∨ True → (∀ h : Nat, h < w5.heap.size → h ≠ b → w'.heap[h]? = w5.heap[h]?) → (w'.cell? ⟨g, 0, none⟩ = some (.slice (some ⟨b1, o1, none⟩) r.length c1) ∧ w'.cell? ⟨b1, o1 + q, none⟩ = some (.int .i64 x1)) ∧ w'.cell? ⟨b1, o1, none⟩ = some (.int .i64 x0) ∧ w'.frozen? ⟨b1, o1, none⟩ = false) := fun w' _ hh => by
              have k1 := hh g hgs (by have := (ho5.lt g rfl).1; omega)
              have k2 := hh b1 hb1s (by omega)
              exact ⟨⟨(World.cell?_of_block (w := w5) k1).trans hcg, (World.cell?_of_block (w := w5) k2).trans hcq⟩, (World.cell?_of_block (w := w5) k2).trans hc0, (World.frozen?_of_block (w := w5) k2).trans hfr⟩
            have HP := Lib.hid (fun (z : Int) (w' : World) (h : OwnZ w' w.heap.size (.slice (some ⟨g, 0, none⟩) L.length c4) L) => h.put (p := ⟨b1, o1, none⟩) z (fun g' e => by have e2 : g = g' := Option.some.inj e; rw [← e2]; exact hbg))
            have hgb : g ≠ b := by have := (ho5.lt g rfl).1; omega
            have HB1 : Hid (w.heap.size ≤ b1) := hB1
            clear hcg hcg2 hc0 hcq hq hr0 hrl hfr
            go_wp2_with fail
            refine wp_region_L 17 (fun w' => w'.cell? ⟨g, 0, none⟩ = some (.slice (some ⟨b1, o1, none⟩) r.length c1) ∧ w'.cell? ⟨b1, o1 + q, none⟩ = some (.int .i64 x1)) (by kernel_rfl) ?_
            have hS0 := (HS.out w5.drew (.inr trivial) (fun _ _ _ => rfl)).1
            refine wpAnyL_take (i := 0) (v := ?_) rfl rfl (by kernel_rfl) rfl (by kernel_rfl) (by kernel_rfl) (by kernel_rfl) (fun _ _ _ h => h) (Or.inl ⟨by rfl, ?_⟩) hS0 ?_
            rotate_left
            · intro w hSw; (try dsimp only at hSw); go_simp; (try with_reducible rfl)
            try simp only [Act.put, List.setIfInBounds_toArray, List.set_cons_zero, List.set_cons_succ]
            refine wpAnyL_take (i := 1) (v := ?_) rfl rfl (by kernel_rfl) rfl (by kernel_rfl) (by kernel_rfl) (by kernel_rfl) (fun _ _ _ h => h) (Or.inl ⟨by rfl, ?_⟩) hS0 ?_
            rotate_left
            · intro w hSw; (try dsimp only at hSw); go_simp; (try with_reducible rfl)
            try simp only [Act.put, List.setIfInBounds_toArray, List.set_cons_zero, List.set_cons_succ]
            refine wpAnyL_take (i := 2) (v := ?_) rfl rfl (by kernel_rfl) rfl (by kernel_rfl) (by kernel_rfl) (by kernel_rfl) (fun _ _ _ h => h) (Or.inl ⟨by rfl, ?_⟩) hS0 ?_
            rotate_left
            · intro w hSw; (try dsimp only at hSw); go_simp; (try with_reducible rfl)
            try simp only [Act.put, List.setIfInBounds_toArray, List.set_cons_zero, List.set_cons_succ]
            refine wpAnyL_take (i := 3) (v := ?_) rfl rfl (by kernel_rfl) rfl (by kernel_rfl) (by kernel_rfl) (by kernel_rfl) (fun _ _ _ h => h) (Or.inl ⟨by rfl, ?_⟩) hS0 ?_
            rotate_left
            · intro w hSw; (try dsimp only at hSw); go_simp; (try with_reducible rfl)
            try simp only [Act.put, List.setIfInBounds_toArray, List.set_cons_zero, List.set_cons_succ]
            refine wpAnyL_take (i := 4) (v := ?_) rfl rfl (by kernel_rfl) rfl (by kernel_rfl) (by kernel_rfl) (by kernel_rfl) (fun _ _ _ h => h) (Or.inl ⟨by rfl, ?_⟩) hS0 ?_
            rotate_left
            · intro w hSw; (try dsimp only at hSw); go_simp; (try with_reducible rfl)
            try simp only [Act.put, List.setIfInBounds_toArray, List.set_cons_zero, List.set_cons_succ]
            refine wpAnyL_take (i := 5) (v := ?_) rfl rfl (by kernel_rfl) rfl (by kernel_rfl) (by kernel_rfl) (by kernel_rfl) (fun _ _ _ h => h) (Or.inl ⟨by rfl, ?_⟩) hS0 ?_
            rotate_left
            · intro w hSw; (try dsimp only at hSw); go_simp; (try with_reducible rfl)
            try simp only [Act.put, List.setIfInBounds_toArray, List.set_cons_zero, List.set_cons_succ]
            refine wpAnyL_take (i := 6) (v := ?_) rfl rfl (by kernel_rfl) rfl (by kernel_rfl) (by kernel_rfl) (by kernel_rfl) (fun _ _ _ h => h) (Or.inl ⟨by rfl, ?_⟩) hS0 ?_
            rotate_left
            · intro w hSw; (try dsimp only at hSw); go_simp; (try with_reducible rfl)
            try simp only [Act.put, List.setIfInBounds_toArray, List.set_cons_zero, List.set_cons_succ]
            refine wpAnyL_take (i := 7) (v := ?_) rfl rfl (by kernel_rfl) rfl (by kernel_rfl) (by kernel_rfl) (by kernel_rfl) (fun _ _ _ h => h) (Or.inl ⟨by rfl, ?_⟩) hS0 ?_
            rotate_left
            · intro w hSw; (try dsimp only at hSw); go_simp; (try with_reducible rfl)
            try simp only [Act.put, List.setIfInBounds_toArray, List.set_cons_zero, List.set_cons_succ]
            refine wpAnyL_take (i := 8) (v := ?_) rfl rfl (by kernel_rfl) rfl (by kernel_rfl) (by kernel_rfl) (by kernel_rfl) (fun _ _ _ h => h) (Or.inl ⟨by rfl, ?_⟩) hS0 ?_
            rotate_left
            · intro w hSw; (try dsimp only at hSw); go_simp; (try with_reducible rfl)
            try simp only [Act.put, List.setIfInBounds_toArray, List.set_cons_zero, List.set_cons_succ]
            refine wpAnyL_take (i := 9) (v := ?_) rfl rfl (by kernel_rfl) rfl (by kernel_rfl) (by kernel_rfl) (by kernel_rfl) (fun _ _ _ h => h) (Or.inl ⟨by rfl, ?_⟩) hS0 ?_
            rotate_left
            · intro w hSw; (try dsimp only at hSw); go_simp; (try with_reducible rfl)
            try simp only [Act.put, List.setIfInBounds_toArray, List.set_cons_zero, List.set_cons_succ]
            refine wpAnyL_take (i := 10) (v := ?_) rfl rfl (by kernel_rfl) rfl (by kernel_rfl) (by kernel_rfl) (by kernel_rfl) (fun _ _ _ h => h) (Or.inl ⟨by rfl, ?_⟩) hS0 ?_
            rotate_left
            · intro w hSw; (try dsimp only at hSw); go_simp; (try with_reducible rfl)
            try simp only [Act.put, List.setIfInBounds_toArray, List.set_cons_zero, List.set_cons_succ]
            refine wpAnyL_take (i := 11) (v := ?_) rfl rfl (by kernel_rfl) rfl (by kernel_rfl) (by kernel_rfl) (by kernel_rfl) (fun _ _ _ h => h) (Or.inl ⟨by rfl, ?_⟩) hS0 ?_
            rotate_left
            · intro w hSw; (try dsimp only at hSw); go_simp; (try with_reducible rfl)
            try simp only [Act.put, List.setIfInBounds_toArray, List.set_cons_zero, List.set_cons_succ]
            refine wpAnyL_take (i := 12) (v := ?_) rfl rfl (by kernel_rfl) rfl (by kernel_rfl) (by kernel_rfl) (by kernel_rfl) (fun _ _ _ h => h) (Or.inl ⟨by rfl, ?_⟩) hS0 ?_
            rotate_left
            · intro w hSw; (try dsimp only at hSw); go_simp; (try with_reducible rfl)
            try simp only [Act.put, List.setIfInBounds_toArray, List.set_cons_zero, List.set_cons_succ]
            refine wpAnyL_take (i := 13) (v := ?_) rfl rfl (by kernel_rfl) rfl (by kernel_rfl) (by kernel_rfl) (by kernel_rfl) (fun _ _ _ h => h) (Or.inl ⟨by rfl, ?_⟩) hS0 ?_
            rotate_left
            · intro w hSw; (try dsimp only at hSw); go_simp; (try with_reducible rfl)
            try simp only [Act.put, List.setIfInBounds_toArray, List.set_cons_zero, List.set_cons_succ]
            refine wpAnyL_one (i := 14) (by kernel_rfl) rfl (fun K3 hK3 => ?_)
            go_simp
            have hb6 := ((Below.refl w5.heap.size w5).alloc (Nat.le_refl _) (.cells #[.int .i64 (-1), .int .i64 5, .int .i64 x1] 3)).drew
            refine hK3.out _ _ (HS.out _ (.inr trivial) (fun h hh _ => hb6.block h hh)).1 (fun _ => ?_)
            clear hK3 K3
            try simp only [Act.put, List.setIfInBounds_toArray, List.set_cons_zero, List.set_cons_succ]
            refine wpAnyL_one (i := 15) (by kernel_rfl) rfl (fun K3 hK3 => ?_)
            go_simp
            refine (s_one (K := K + 42) (hr5.below hb6 hlw5 |>.mono (by omega)) (by omega) ((litW w5 #[.int .i64 (-1), .int .i64 5, .int .i64 x1] [-1, 5, x1] rfl).same (w' := (w5.alloc (.cells #[.int .i64 (-1), .int .i64 5, .int .i64 x1] 3)).drew) (fun _ _ _ => rfl)) (by simp) (by simp) (.inr hlw5) (by simp)).mono ?_
            rintro e w7 ⟨z, rfl, _, hr7, hu7⟩
            have hs7 := hu7.size
            have hk7 : ∀ h : Nat, h < w5.heap.size → h ≠ b → w7.heap[h]? = w5.heap[h]? := fun h hh hn => (hu7.block h (by simp; omega) (by omega)).trans (hb6.block h hh)
            have hS7 := HS.out w7 (.inr trivial) hk7
            refine hK3.out _ _ hS7.1 (fun _ => ?_)
            clear hK3 K3
            try simp only [Act.put, List.setIfInBounds_toArray, List.set_cons_zero, List.set_cons_succ]
            refine wpAnyL_one (i := 16) (by kernel_rfl) rfl (fun K3 hK3 => ?_)
            go_simp
            refine hK3.out _ _ hS7.1 (fun _ => ?_)
            clear hK3 K3
            try simp only [Act.put, List.setIfInBounds_toArray, List.set_cons_zero, List.set_cons_succ]
            refine wpAnyL_last (by kernel_rfl) rfl (fun K3 hK3 => ?_)
            have e5 := hS7.2.1
            have f5 := hS7.2.2
            go_simp
            refine hK3.out _ _ ?_
            clear hK3 K3
            try simp only [Act.put, List.setIfInBounds_toArray, List.set_cons_zero, List.set_cons_succ]
            refine wpAnyL_done (by kernel_rfl) ?_ _
            refine NoPanic.normal ?_
            have ho7 := (ho5.below hb6).upd hu7 hlt
            obtain ⟨mm', hm1, hm2, hm3⟩ := HP.out z w7 ho7
            have hU7 := (hU5.below hb6 (by omega)).upd hu7
            have hU8 := hU7.set (p := ⟨b1, o1, none⟩) HB1.out (.int .i64 z)
            have hr8 : Rdr (w7.setCell ⟨b1, o1, none⟩ (.int .i64 z)) b (K + 70) := (hr7.mono (by omega)).same (fun k hk => Below.heap_setCell _ _ _ _ (by have := HB1.out; simp; omega)) (by simp)
            have HL8 := Lib.hid (R6.put HL4.out hm2)
            have hm20 : mm'.length ≤ 20 := by omega
            obtain ⟨Ln, hLn⟩ : ∃ x, L.length = x := ⟨_, rfl⟩
            rw [hLn] at hm1 hm3
            rw [← hm1] at hm3
            have HM1 := Lib.hid hm1
            have HLn := Lib.hid hLn
            clear hm1 hm2 hLn ho5 hb6 hu7 hU7 ho7 hr5 hS7 hk7
            rw [HLn.out, ← HM1.out]
            go_wp2
            go_ret2
            exact ⟨N, _, _, mm', rfl, hm3, ⟨⟨by omega, by omega⟩, by omega, HL8.out⟩, hr8, hU8⟩
        have hune1 : (u == 1) = false := by rw [beq_eq_false_iff_ne]; exact f1
        by_cases f2 : u = 2
        · subst f2
          have hw1 : IntKind.i64.wrap ((N : Int) + 1) = (N : Int) + 1 := by rw [IntWalk.i64_in _ (by omega)]
          have hb6 := (Below.refl w5.heap.size w5).alloc (Nat.le_refl _) (.cells #[.int .i64 0, .int .i64 6, .int .i64 ((N : Int) + 1)] 3)
          go_wp2_with fail
          refine (s_one (hr5.below hb6 hlw5) (by omega) (litW w5 _ [0, 6, (N : Int) + 1] rfl) (by simp) (by simp) (.inr hlw5) (by simp)).mono ?_
          rintro e w6 ⟨x, rfl, hx, hr6, hu6⟩
          have hx6 : 0 ≤ x ∧ x ≤ 6 := by simp at hx; omega
          have ho6 := (ho5.below hb6).upd hu6 hlt
          have hU6 := (hU5.below hb6 (by omega)).upd hu6
          clear hx
          go_wp2
          go_ret2
          exact ⟨x, a4, c4, L, rfl, ho6, ⟨hx6, by omega, HL4.out⟩, hr6.mono (by omega), hU6⟩
        have hune2 : (u == 2) = false := by rw [beq_eq_false_iff_ne]; exact f2
        go_wp2
        go_ret2
        exact ⟨N, a4, c4, L, rfl, ho5, ⟨⟨by omega, by omega⟩, by omega, HL4.out⟩, hr5.mono (by omega), hU5⟩

end Go.Proofs.Ytkboggohkhjciaa
