/- Walks: bans that are drawn, where the model stays owned and other blocks stay. -/
import Derived.Test.YtehoagbpgahopaaZp
namespace Go.Proofs.Ytehoagbpgahopaa
open Go.RowKit

theorem ownL_keep {w w' : World} {B : Nat} {v : Value} {l : List Int} (h : OwnL w B v l) (hk : ∀ g, v.ownBlock = some g → w'.heap[g]? = w.heap[g]?) : OwnL w' B v l := by
  obtain ⟨h1, h2⟩ := h
  rcases h2 with h2 | ⟨g, cap, cur, rfl, hB, hg, rest⟩
  · exact ⟨h1, .inl h2⟩
  · exact ⟨h1, .inr ⟨g, cap, cur, rfl, hB, by rw [hk g rfl]; exact hg, rest⟩⟩
theorem OwnL.upBs {w w' : World} {b B : Nat} {v : Value} {l : List Int} (h : OwnL w B v l) (hu : UpB b w.heap.size w w') (hb : b < B) : OwnL w' B v l := h.same fun g h1 h2 => hu.block g h2 h2 (by omega)

set_option maxRecDepth 100000 in
theorem run_app1kP {w : World} (ty : TypeId) (B : Nat) (a : Option Addr) (n c : Nat) (l : List Int) (hown : OwnL w B (.slice a n c) l) (x : Int) (nw : Nat) (hnw : nw = w.heap.size) (hl : l.length ≤ 1099511627776) (hB : B ≤ w.heap.size) :
    ∃ v' w', (Builtin.append_ #[23, 23] ty #[.slice a n c, .slice (some ⟨nw, 0, none⟩) 1 1]).run Try.prog (w.alloc (.cells #[.int .i64 x] 3)) = .ok v' w' ∧ OwnL w' B v' (l ++ [x]) ∧ Below B w w' ∧ RI w' B w.heap.size a l ∧ (∀ g, g < w.heap.size → Value.ownBlock (.slice a n c) ≠ some g → w'.heap[g]? = w.heap[g]?) ∧ OwnL w' B (.slice a n c) l := by
  obtain ⟨v', w', hr, ho2, hbl, hri, hkp⟩ := run_app1k ty B a n c l hown x nw hnw hl hB
  refine ⟨v', w', hr, ho2, hbl, hri, hkp, ?_⟩
  subst hnw
  obtain ⟨a0, c0, e0, hoi⟩ := hown.slice
  cases e0
  obtain ⟨i0, hi, hz0, hz1, hz2⟩ := info_parts infoInt
  have hownA := World.ownsRow.alloc hown (.cells #[.int .i64 x] 3)
  rcases hown.2 with ⟨hn, h0⟩ | ⟨g, cap, cur, hv, hbg, hg, hnc, hcm, hcs, ht⟩
  · exact ⟨hown.1, .inl ⟨hn, h0⟩⟩
  · cases hv
    have hgl : g < w.heap.size := (Array.getElem?_eq_some_iff.1 hg).1
    have hgA : (w.alloc (.cells #[.int .i64 x] 3)).heap[g]? = some (.cells cur 3 (0, 0)) := by rw [Below.heap_alloc w _ g hgl]; exact hg
    by_cases hroom : l.length + 1 ≤ c
    · have hr2 := run_append_room (P := Try.prog) (w.alloc (.cells #[.int .i64 x] 3)) 23 ty 3 i0 undI hi g l.length c cur hgA ⟨w.heap.size, 0, none⟩ 1 1 [.int .i64 x] (by rw [hz1]; rfl) (cell_one_new _ _ _) (fun u hu => by simp at hu; subst hu; rfl) hroom (by rw [hz1]; simp; omega)
      rw [hr] at hr2
      cases hr2
      rcases ho2.2 with ⟨hn, h0⟩ | ⟨g', cap', cur', hv', hbg', hg', hnc', hcm', hcs', ht'⟩
      · cases hn
      · injection hv' with e6 e7 e8
        injection e6 with e6
        injection e6 with e6
        subst e6 e8
        refine ⟨hown.1, .inr ⟨g, c, cur', rfl, hbg, hg', hnc, hcm, hcs', ?_⟩⟩
        rw [Nat.mul_one] at ht' ⊢
        have h2 := congrArg (List.take l.length) ht'
        rw [List.take_take, ints_snoc, List.length_append, List.take_append_of_le_length (by rw [ints_len]; omega), List.take_of_length_le (l := ints l) (by rw [ints_len]; omega)] at h2
        rw [← h2]
        congr 1
        omega
    · have holds : ∀ j u, (ints l)[j]? = some u → (w.alloc (.cells #[.int .i64 x] 3)).cell? ((⟨g, 0, none⟩ : Addr).add j) = some u := World.ownsRow.cells hownA (g := g) rfl
      have hr2 := run_append_grow (P := Try.prog) (w.alloc (.cells #[.int .i64 x] 3)) 23 ty 3 i0 (.int .i64 0) undI hi hz0 ⟨g, 0, none⟩ l.length c (ints l) (by rw [ints_len, hz1, Nat.mul_one]) holds ⟨w.heap.size, 0, none⟩ 1 1 [.int .i64 x] (by rw [hz1]; rfl) (cell_one_new _ _ _) (by omega) (by omega) (growslice_fits (by omega) (by rw [hz2]; omega))
      rw [hr] at hr2
      cases hr2
      refine ⟨hown.1, .inr ⟨g, c, cur, rfl, hbg, ?_, hnc, hcm, hcs, ht⟩⟩
      refine Eq.trans ?_ hgA
      exact Below.heap_alloc (w.alloc (.cells #[.int .i64 x] 3)).drew _ g (by simp; omega)
theorem run_app1kO {w : World} {ops : Array Oper} {rest : List Oper} {o : Oper} {a0 : Act} {Q : Exit → Act → World → Prop} (hgd : o.guard = none) (s t : Operand)
    (ho : o.op = .call { callee := .builtin .append, args := #[s, t], argTypes := #[23, 23] }) (B : Nat) (a : Option Addr) (n c : Nat) (l : List Int) (hs : a0.eval s = .slice a n c) (hown : OwnL w B (.slice a n c) l) (x : Int) (nw : Nat) (hnw : nw = w.heap.size)
    (hx : a0.eval t = .slice (some ⟨nw, 0, none⟩) 1 1) (hl : l.length ≤ 1099511627776) (hB : B ≤ w.heap.size)
    (h : ∀ v' w', OwnL w' B v' (l ++ [x]) → Below B w w' → RI w' B w.heap.size a l → (∀ g, g < w.heap.size → Value.ownBlock (.slice a n c) ≠ some g → w'.heap[g]? = w.heap[g]?) → OwnL w' B (.slice a n c) l → wpList Try.prog ops Q rest (a0.put o.dst v') w') : wpList Try.prog ops Q (o :: rest) a0 (w.alloc (.cells #[.int .i64 x] 3)) := by
  obtain ⟨v', w', hr, h1, h2, h3, h4, h5⟩ := run_app1kP o.type B a n c l hown x nw hnw hl hB
  exact Lib.wpList_append_run _ hgd s t 23 23 ho _ _ hs hx v' w' hr (h v' w' h1 h2 h3 h4 h5)


set_option maxRecDepth 100000 in
set_option maxHeartbeats 8000000 in
theorem s_someBansO {b K N B n c : Nat} {a : Option Addr} {m : List Int} {w : World} (hr : Rdr w b K) (hm : OwnL w B (.slice a n c) m) (hn : n = m.length) (hbB : b < B) (hBw : B ≤ w.heap.size) (hL : LP N m) (hN : N ≤ 18) (hK : K ≤ 400000) :
    Calls Try.prog 124 #[.pointer (some ⟨b, 0, none⟩), .slice a n c] w (fun e w' => ∃ (a1 : Option Addr) (c1 : Nat) (mm : List (List Int)), e = .returned (.slice a1 mm.length c1) ∧ OwnX w' w.heap.size (.slice a1 mm.length c1) mm ∧ SQ (N + 2) mm ∧ Rdr w' b (K + 1000) ∧ OwnL w' B (.slice a n c) m ∧ UpB b B w w' ∧ ∀ g, g < w.heap.size → g ≠ b → Value.ownBlock (.slice a n c) ≠ some g → w'.heap[g]? = w.heap[g]?) := by
  subst hn
  have hlt := hr.lt
  have hl1 := hL.1
  have HL := Lib.hid hL; clear hL
  obtain ⟨a0, c0, e0, hoi⟩ := hm.slice
  cases e0
  have hmr := hoi.ri
  clear hoi
  go_enter Try.func124, Try.ntmps124
  go_wp2_with fail
  refine (s_aBans hr hmr (Nat.le_refl _) hbB HL.out (by omega) (by omega)).mono ?_
  rintro e w1 ⟨a1, c1, l, rfl, ho1, hl, hr1, hU1⟩
  have hll := hl.1
  have HLl := Lib.hid hl
  have hs1 := hU1.size
  have hm1 := hm.same fun g h1 h2 => hU1.block g h2 h2 (by omega)
  have hmW1 := hmr.upB hU1 (Nat.le_refl _) (Nat.le_refl _) hbB
  have HOWN : Hid (∀ g, Value.ownBlock (.slice a m.length c) = some g → g < w.heap.size) := fun g hg => (World.ownsRow.lt hm g hg).2
  have hU1B := hU1.less hBw
  clear hr hmr hm hl
  go_wp2_with fail
  refine (s_pick hr1 (by omega) (by omega) (by omega)).mono ?_
  rintro e w2 ⟨v, rfl, hv, hr2, hu2⟩
  have hv0 := hv.1
  have ho2 := ho1.upd hu2 (by omega)
  have hm2 := hm1.upd hu2 hbB
  have hU2 := hU1B.upd hu2
  have hU2w := hU1.upd hu2
  have hs2 := hU2.size
  have HUPD : Hid (SQ (N + 2) l) := ⟨by have := HLl.out.1; omega, fun r h => (HLl.out.2 r h).mono (by omega)⟩
  have hmW := hmW1.upd hu2 (by omega) (.inr (by omega))
  clear ho1 hr1 hU1 hu2 hv hm1 hU1B hmW1
  by_cases e0 : v = 0
  · subst e0
    have hbnd : m.length ≤ 1099511627776 := by omega
    go_wp2_with (at_builtin; refine run_app1kO rfl (.tmp 15) (.tmp 16) rfl B a m.length c m rfl hm2 2 w2.heap.size rfl rfl hbnd (by omega) ?_; intro v3 w3 hown3 hb3 hmr3 hkp3 hm3; obtain ⟨m2, EM, hown3⟩ := named hown3; obtain ⟨a3, c3, hv3, hoi3⟩ := hown3.slice; subst hv3)
    have hz3 := hb3.size
    have hr3 := hr2.below hb3 hbB
    have ho3 := ho2.same hz3 fun g h1 h2 => hkp3 g h2 fun e => by have := HOWN.out g e; omega
    have HL3 : Hid (LP (N + 1) m2) := by show LP _ _; rw [EM.out]; exact HL.out.snoc (by omega)
    have hU3 := hU2.trans ⟨hb3.os, hb3.tape, hb3.output, hb3.size, fun j hj hjB _ => hb3.block j hjB⟩
    have hmW3 : RI w3 B w.heap.size a m := hmr3.own HOWN.out
    have KX3 : Hid (∀ g, g < w.heap.size → g ≠ b → Value.ownBlock (.slice a m.length c) ≠ some g → w3.heap[g]? = w.heap[g]?) := fun g h1 h2 h3 => (hkp3 g (by omega) h3).trans (hU2w.block g h1 h1 h2)
    have hri3 := hoi3.ri
    clear ho2 hr2 hb3 hkp3 hoi3 hown3 hm2 hmr3 hU2 hU2w
    go_wp2_with fail
    refine (s_somePattern hr3 hri3 (Nat.le_refl _) hbB HL3.out (by omega)).mono ?_
    rintro e w4 ⟨a4, c4, r, rfl, ho4, hLr, hr4, hU4⟩
    have hs4 := hU4.size
    have hX4 := ho3.upB hU4 (by omega)
    have KX4 : Hid (∀ g, g < w.heap.size → g ≠ b → Value.ownBlock (.slice a m.length c) ≠ some g → w4.heap[g]? = w.heap[g]?) := fun g h1 h2 h3 => (hU4.block g (by omega) (by omega) h2).trans (KX3.out g h1 h2 h3)
    have hm4 := hm3.upBs hU4 hbB
    have hLrn := hLr.1
    have HLr := Lib.hid hLr
    have HOF : Hid (∀ g, (Value.slice a1 l.length c1).ownBlock = some g → g < w3.heap.size) := fun g hg => (ho3.lt g hg).2
    obtain ⟨a5, c5, e5, hoi⟩ := ho4.slice
    cases e5
    have hri := hoi.ri
    have hcp := hoi.cap
    have hU4B := hU3.trans (hU4.less (show B ≤ w3.heap.size by omega))
    have hmW4 := hmW3.upB hU4 (by omega) (by omega) hbB
    have HSP : Hid (SQ (N + 2) (l ++ [r])) := by
      refine ⟨?_, fun q hq => ?_⟩
      · simp; omega
      · rcases List.mem_append.1 hq with hq | hq
        · exact (HLl.out.2 q hq).mono (by omega)
        · simp at hq; subst hq; exact HLr.out
    clear ho3 ho4 hoi hLr hU4 hU3 hri3 hmW3 hm3
    go_wp2_with (first
      | (at_builtin; refine wpList_appX rfl (.tmp 13) (.tmp 19) rfl w.heap.size w3.heap.size w4.heap.size _ l rfl hX4 (by omega) r a4 r.length c4 rfl hri hcp (by omega) (Nat.le_refl _) HOF.out w4.heap.size rfl rfl (by omega) ?_; intro v8 w8 hown8 hb8 _; obtain ⟨l2, EL2⟩ : ∃ l2, l ++ [r] = l2 := ⟨_, rfl⟩; rw [EL2] at hown8; obtain ⟨a8, c8, hv8, _⟩ := hown8.riic; subst hv8)
      | go_in)
    have HSP2 : Hid (SQ (N + 2) l2) := by show SQ _ _; rw [← EL2]; exact HSP.out
    have hr8 := hr4.below hb8 hlt
    have hU8 := hU4B.below hb8 (by omega)
    have hmW8 := ownL_keep hm4 fun g hg => hb8.block g (HOWN.out g hg)
    have KX8 : Hid (∀ g, g < w.heap.size → g ≠ b → Value.ownBlock (.slice a m.length c) ≠ some g → w8.heap[g]? = w.heap[g]?) := fun g h1 h2 h3 => (hb8.block g h1).trans (KX4.out g h1 h2 h3)
    have hz8 := hb8.size
    clear hX4 hri hr4 hU4B hb8 hmW4
    go_ret
    exact ⟨a8, c8, l2, rfl, hown8, HSP2.out, hr8.mono (by omega), hmW8, hU8, KX8.out⟩
  by_cases e1 : v = 1
  · subst e1
    have hlN := hl1
    have hz2 := hs2
    have HOL : Hid (∀ g, (Value.slice a1 l.length c1).ownBlock = some g → g < w2.heap.size) := fun g hg => (ho2.lt g hg).2
    go_wp2_with fail
    refine (s_aPattern hr2 hmW (by omega) hbB HL.out (by omega)).mono ?_
    rintro e y1 ⟨b1, d1, r1, rfl, op1, lp1, hq1, Uq1⟩
    have zq1 := Uq1.size
    have hX1 := ho2.upB (Uq1.less (by omega)) (by omega)
    have hO1 := hm2.upBs Uq1 hbB
    have hmW1 := hmW.upB Uq1 (by omega) (by omega) hbB
    obtain ⟨_, _, e1, oi1⟩ := op1.slice
    cases e1
    have ri1 := oi1.ri
    have cp1 := oi1.cap
    have LP1 := Lib.hid (lp1.mono (show N ≤ N + 2 by omega))
    have ln1 := lp1.1
    have UU1 := hU2.trans (Uq1.less (show B ≤ _ by omega))
    have UW1 := hU2w.trans (Uq1.less (show w.heap.size ≤ _ by omega))
    clear op1 oi1 lp1
    go_wp2_with fail
    refine (s_aPattern hq1 hmW1 (by omega) hbB HL.out (by omega)).mono ?_
    rintro e y2 ⟨b2, d2, r2, rfl, op2, lp2, hq2, Uq2⟩
    have zq2 := Uq2.size
    have hX2 := hX1.upB (Uq2.less (by omega)) (by omega)
    have hO2 := hO1.upBs Uq2 hbB
    have hmW2 := hmW1.upB Uq2 (by omega) (by omega) hbB
    obtain ⟨_, _, e2, oi2⟩ := op2.slice
    cases e2
    have ri2 := oi2.ri
    have cp2 := oi2.cap
    have LP2 := Lib.hid (lp2.mono (show N ≤ N + 2 by omega))
    have ln2 := lp2.1
    have UU2 := UU1.trans (Uq2.less (show B ≤ _ by omega))
    have UW2 := UW1.trans (Uq2.less (show w.heap.size ≤ _ by omega))
    clear op2 oi2 lp2
    have ri1 := ri1.upB Uq2 (by omega) (by omega) (by omega)
    go_wp2_with fail
    refine (s_aPattern hq2 hmW2 (by omega) hbB HL.out (by omega)).mono ?_
    rintro e y3 ⟨b3, d3, r3, rfl, op3, lp3, hq3, Uq3⟩
    have zq3 := Uq3.size
    have hX3 := hX2.upB (Uq3.less (by omega)) (by omega)
    have hO3 := hO2.upBs Uq3 hbB
    have hmW3 := hmW2.upB Uq3 (by omega) (by omega) hbB
    obtain ⟨_, _, e3, oi3⟩ := op3.slice
    cases e3
    have ri3 := oi3.ri
    have cp3 := oi3.cap
    have LP3 := Lib.hid (lp3.mono (show N ≤ N + 2 by omega))
    have ln3 := lp3.1
    have UU3 := UU2.trans (Uq3.less (show B ≤ _ by omega))
    have UW3 := UW2.trans (Uq3.less (show w.heap.size ≤ _ by omega))
    clear op3 oi3 lp3
    have ri1 := ri1.upB Uq3 (by omega) (by omega) (by omega)
    have ri2 := ri2.upB Uq3 (by omega) (by omega) (by omega)
    go_wp2_with fail
    refine (s_aPattern hq3 hmW3 (by omega) hbB HL.out (by omega)).mono ?_
    rintro e y4 ⟨b4, d4, r4, rfl, op4, lp4, hq4, Uq4⟩
    have zq4 := Uq4.size
    have hX4 := hX3.upB (Uq4.less (by omega)) (by omega)
    have hO4 := hO3.upBs Uq4 hbB
    have hmW4 := hmW3.upB Uq4 (by omega) (by omega) hbB
    obtain ⟨_, _, e4, oi4⟩ := op4.slice
    cases e4
    have ri4 := oi4.ri
    have cp4 := oi4.cap
    have LP4 := Lib.hid (lp4.mono (show N ≤ N + 2 by omega))
    have ln4 := lp4.1
    have UU4 := UU3.trans (Uq4.less (show B ≤ _ by omega))
    have UW4 := UW3.trans (Uq4.less (show w.heap.size ≤ _ by omega))
    clear op4 oi4 lp4
    have ri1 := ri1.upB Uq4 (by omega) (by omega) (by omega)
    have ri2 := ri2.upB Uq4 (by omega) (by omega) (by omega)
    have ri3 := ri3.upB Uq4 (by omega) (by omega) (by omega)
    go_wp2_with fail
    refine (s_aPattern hq4 hmW4 (by omega) hbB HL.out (by omega)).mono ?_
    rintro e y5 ⟨b5, d5, r5, rfl, op5, lp5, hq5, Uq5⟩
    have zq5 := Uq5.size
    have hX5 := hX4.upB (Uq5.less (by omega)) (by omega)
    have hO5 := hO4.upBs Uq5 hbB
    have hmW5 := hmW4.upB Uq5 (by omega) (by omega) hbB
    obtain ⟨_, _, e5, oi5⟩ := op5.slice
    cases e5
    have ri5 := oi5.ri
    have cp5 := oi5.cap
    have LP5 := Lib.hid (lp5.mono (show N ≤ N + 2 by omega))
    have ln5 := lp5.1
    have UU5 := UU4.trans (Uq5.less (show B ≤ _ by omega))
    have UW5 := UW4.trans (Uq5.less (show w.heap.size ≤ _ by omega))
    clear op5 oi5 lp5
    have ri1 := ri1.upB Uq5 (by omega) (by omega) (by omega)
    have ri2 := ri2.upB Uq5 (by omega) (by omega) (by omega)
    have ri3 := ri3.upB Uq5 (by omega) (by omega) (by omega)
    have ri4 := ri4.upB Uq5 (by omega) (by omega) (by omega)
    go_wp2_with fail
    refine (s_aPattern hq5 hmW5 (by omega) hbB HL.out (by omega)).mono ?_
    rintro e y6 ⟨b6, d6, r6, rfl, op6, lp6, hq6, Uq6⟩
    have zq6 := Uq6.size
    have hX6 := hX5.upB (Uq6.less (by omega)) (by omega)
    have hO6 := hO5.upBs Uq6 hbB
    have hmW6 := hmW5.upB Uq6 (by omega) (by omega) hbB
    obtain ⟨_, _, e6, oi6⟩ := op6.slice
    cases e6
    have ri6 := oi6.ri
    have cp6 := oi6.cap
    have LP6 := Lib.hid (lp6.mono (show N ≤ N + 2 by omega))
    have ln6 := lp6.1
    have UU6 := UU5.trans (Uq6.less (show B ≤ _ by omega))
    have UW6 := UW5.trans (Uq6.less (show w.heap.size ≤ _ by omega))
    clear op6 oi6 lp6
    have ri1 := ri1.upB Uq6 (by omega) (by omega) (by omega)
    have ri2 := ri2.upB Uq6 (by omega) (by omega) (by omega)
    have ri3 := ri3.upB Uq6 (by omega) (by omega) (by omega)
    have ri4 := ri4.upB Uq6 (by omega) (by omega) (by omega)
    have ri5 := ri5.upB Uq6 (by omega) (by omega) (by omega)
    have hXw : OwnX y6 w.heap.size (.slice a1 l.length c1) l := hX6
    have hcell : Hid (∀ (k : Nat) (q : List Int), ([r1, r2, r3, r4, r5, r6] : List (List Int))[k]? = some q → ∃ a' c', (#[.slice b1 r1.length d1, .slice b2 r2.length d2, .slice b3 r3.length d3, .slice b4 r4.length d4, .slice b5 r5.length d5, .slice b6 r6.length d6] : Array Value)[k]? = some (Value.slice a' q.length c') ∧ q.length ≤ c' ∧ ∃ lo hi, RI y6 lo hi a' q ∧ w.heap.size ≤ lo ∧ hi ≤ y6.heap.size ∧ ∀ g, (Value.slice a1 l.length c1).ownBlock = some g → g < lo) := by
      intro k q hq
      have hk := lt_of_at hq
      simp at hk
      obtain rfl | rfl | rfl | rfl | rfl | rfl : k = 0 ∨ k = 1 ∨ k = 2 ∨ k = 3 ∨ k = 4 ∨ k = 5 := by omega
      · obtain rfl : r1 = q := by simpa using hq
        exact ⟨_, _, rfl, cp1, _, _, ri1, by omega, by omega, fun g hg => by have := HOL.out g hg; omega⟩
      · obtain rfl : r2 = q := by simpa using hq
        exact ⟨_, _, rfl, cp2, _, _, ri2, by omega, by omega, fun g hg => by have := HOL.out g hg; omega⟩
      · obtain rfl : r3 = q := by simpa using hq
        exact ⟨_, _, rfl, cp3, _, _, ri3, by omega, by omega, fun g hg => by have := HOL.out g hg; omega⟩
      · obtain rfl : r4 = q := by simpa using hq
        exact ⟨_, _, rfl, cp4, _, _, ri4, by omega, by omega, fun g hg => by have := HOL.out g hg; omega⟩
      · obtain rfl : r5 = q := by simpa using hq
        exact ⟨_, _, rfl, cp5, _, _, ri5, by omega, by omega, fun g hg => by have := HOL.out g hg; omega⟩
      · obtain rfl : r6 = q := by simpa using hq
        exact ⟨_, _, rfl, cp6, _, _, ri6, by omega, by omega, fun g hg => by have := HOL.out g hg; omega⟩
    obtain ⟨L6, hL6⟩ : ∃ L6 : List (List Int), [r1, r2, r3, r4, r5, r6] = L6 := ⟨_, rfl⟩
    have h66 : 6 = L6.length := by rw [← hL6]; rfl
    rw [hL6] at hcell
    have HL6 := Lib.hid hL6
    clear hL6
    have h66b : L6.length ≤ 1099511627776 := by omega
    have H66 := Lib.hid h66
    clear h66
    go_wp2_with (first
      | (at_builtin; refine wpList_appXN rfl (.tmp 23) (.tmp 42) rfl w.heap.size _ l L6 rfl hXw (by omega) _ 6 H66.out rfl hcell.out y6.heap.size rfl rfl (by omega) h66b ?_; intro v8 w8 hown8 hb8; obtain ⟨L8, hL8⟩ : ∃ L8, l ++ L6 = L8 := ⟨_, rfl⟩; rw [hL8] at hown8; obtain ⟨a8, c8, hv8, _⟩ := hown8.riic; subst hv8)
      | go_in)
    have HSQ : Hid (SQ (N + 2) L8) := by
      show SQ _ _
      rw [← hL8, ← HL6.out]
      refine ⟨by simp; omega, fun q hq => ?_⟩
      rcases List.mem_append.1 hq with hq | hq
      · exact (HLl.out.2 q hq).mono (by omega)
      · simp at hq
        rcases hq with rfl | rfl | rfl | rfl | rfl | rfl
        · exact LP1.out
        · exact LP2.out
        · exact LP3.out
        · exact LP4.out
        · exact LP5.out
        · exact LP6.out
    have hz8 := hb8.size
    have hr8 := hq6.below hb8 (by omega)
    have hU8 := UU6.below hb8 (by omega)
    have hm8 := ownL_keep hO6 fun g hg => hb8.block g (HOWN.out g hg)
    clear hL8
    go_ret
    exact ⟨a8, c8, L8, rfl, hown8, HSQ.out, hr8.mono (by omega), hm8, hU8, fun g h1 h2 _ => (hb8.block g h1).trans (UW6.block g h1 h1 h2)⟩
  have hv2 : 2 ≤ v := by omega
  go_wp2
  go_ret
  exact ⟨a1, c1, l, rfl, ho2, HUPD.out, hr2.mono (by omega), hm2, hU2, fun g h1 h2 _ => hU2w.block g h1 h1 h2⟩

end Go.Proofs.Ytehoagbpgahopaa
