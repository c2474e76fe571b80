/- Walks: the bans that laws draw. -/
import Derived.Test.YtehoagbpgahopaaRl
import Derived.Test.YtehoagbpgahopaaWe
import Derived.Test.YtehoagbpgahopaaZm
namespace Go.Proofs.Ytehoagbpgahopaa
open Go.RowKit

/-- append of rows out of a box -/
theorem wpList_appXN {wr : World} {ops : Array Oper} {rest : List Oper} {o : Oper} {a : Act} {Q : Exit → Act → World → Prop} (hgd : o.guard = none) (s t : Operand)
    (ho : o.op = .call { callee := .builtin .append, args := #[s, t], argTypes := #[24, 24] }) (B : Nat) (v : Value) (mm mm2 : List (List Int)) (hs : a.eval s = v) (hown : OwnX wr B v mm) (hB : B ≤ wr.heap.size)
    (cs : Array Value) (n : Nat) (hn : n = mm2.length) (hcs : cs.size = n) (hcell : ∀ (k : Nat) (r : List Int), mm2[k]? = some r → ∃ a' c', cs[k]? = some (Value.slice a' r.length c') ∧ r.length ≤ c' ∧ ∃ lo hi, RI wr lo hi a' r ∧ B ≤ lo ∧ hi ≤ wr.heap.size ∧ ∀ g, v.ownBlock = some g → g < lo)
    (nw : Nat) (hx : a.eval t = .slice (some ⟨nw, 0, none⟩) n n) (hnw : nw = wr.heap.size) (hl : mm.length ≤ 1099511627776) (hl2 : mm2.length ≤ 1099511627776)
    (h : ∀ v' w', OwnX w' B v' (mm ++ mm2) → Below B wr w' → wpList Try.prog ops Q rest (a.put o.dst v') w') : wpList Try.prog ops Q (o :: rest) a (wr.alloc (.cells cs 23)) := by
  subst hnw hn
  have hlt0 := hown.lt
  obtain ⟨xs, h1, h2⟩ := hown
  have hxl : xs.length = mm.length := by have := h1.1; omega
  obtain ⟨i0, hi0, hz0, hz1, hz2⟩ := info_parts infoI
  have hbA := (Below.refl wr.heap.size wr).alloc (Nat.le_refl _) (.cells cs 23)
  have hcl : cs.toList.length = mm2.length := by simp [hcs]
  refine wpList_append_own_at _ hgd s t 24 ho B 23 i0 (.slice none 0 0) 1 24 undII hi0 hz0 hz1 hz2 rfl (by decide) v mm.length xs hs (World.ownsRow.alloc h1 _) ⟨wr.heap.size, 0, none⟩ mm2.length mm2.length cs.toList hx (by rw [hcl, Nat.mul_one])
    ?_ ?_ ?_ ?_ ?_ ?_
  · intro j u hu
    have := cell_of_row (wr.alloc (.cells cs 23)) wr.heap.size j cs 23 (0, 0) (heap_alloc_new wr _)
    have e : (⟨wr.heap.size, 0, none⟩ : Addr).add j = ⟨wr.heap.size, j, none⟩ := by unfold Addr.add; split <;> simp_all
    rw [e, this]
    simpa using hu
  · intro u hu
    obtain ⟨k, hk⟩ := List.getElem?_of_mem hu
    obtain ⟨r, hr⟩ := at_of_lt (show k < mm2.length by rw [← hcl]; exact lt_of_at hk)
    obtain ⟨a', c', e, _⟩ := hcell k r hr
    have : cs.toList[k]? = cs[k]? := by simp
    rw [this, e] at hk
    cases hk; rfl
  · unfold maxLen; omega
  · omega
  · simp; omega
  · intro v' w' g1 g2 g3 g4
    have hs2 := g2.size
    simp only [World.size_alloc] at hs2 g4
    have hBw : Below B wr w' := ((Below.refl B wr).alloc hB _).grown g2 (by simp; omega) fun k hk => (hlt0 k hk).1
    have hkeep : ∀ b, b < wr.heap.size → v.ownBlock ≠ some b → w'.heap[b]? = wr.heap[b]? := fun b hb hn => (g2.block b (by simp; omega) fun e => hn e.symm).trans (hbA.block b hb)
    have hnew : ∀ b, b < wr.heap.size → v.ownBlock ≠ some b → v'.ownBlock ≠ some b := fun b hb hn => by
      rcases g4 with g4 | g4
      · rw [g4]; exact hn
      · rw [g4]; intro e; cases e; omega
    refine h v' w' ⟨xs ++ cs.toList, by rw [List.length_append]; exact g1, fun k q e => ?_⟩ hBw
    rcases app_at e with ⟨hk, e⟩ | ⟨hk, e⟩
    · obtain ⟨a1, c1, e1, e2, e3⟩ := h2 k q e
      exact ⟨a1, c1, by rw [List.getElem?_append_left (by omega)]; exact e1, e2, e3.same fun b hb => ⟨⟨hb.1, by omega, hnew b hb.2.1 hb.2.2⟩, hkeep b hb.2.1 hb.2.2⟩⟩
    · obtain ⟨a', c', e1, hcap, lo, hi, hr, hlo, hhi, hoff⟩ := hcell _ q e
      refine ⟨a', c', by rw [List.getElem?_append_right (by omega), hxl]; simpa using e1, hcap, RIp.ofRI (lo := lo) (hi := hi) ?_ fun b hb1 hb2 => ⟨by omega, by omega, ?_⟩⟩
      · exact hr.same fun b hb1 hb2 => hkeep b (by omega) fun e => by have := hoff b e; omega
      · exact hnew b (by omega) fun e => by have := hoff b e; omega

/- Walks: the bans that laws draw. -/
open Go.RowKit

set_option maxRecDepth 100000 in
set_option maxHeartbeats 4000000 in
theorem s_aBans {b K N lo hi c : Nat} {a : Option Addr} {m : List Int} {w : World} (hr : Rdr w b K) (hm : RI w lo hi a m) (hhi : hi ≤ w.heap.size) (hlo : b < lo) (hL : LP N m) (hN : N ≤ 20) (hK : K ≤ 500000) :
    Calls Try.prog 200 #[.pointer (some ⟨b, 0, none⟩), .slice a m.length c] w (fun e w' => ∃ (a : Option Addr) (c : Nat) (mm : List (List Int)), e = .returned (.slice a mm.length c) ∧ OwnX w' w.heap.size (.slice a mm.length c) mm ∧ (mm.length ≤ 5 ∧ ∀ r ∈ mm, LP N r) ∧ Rdr w' b (K + 400) ∧ UpB b w.heap.size w w') := by
  have hlt := hr.lt
  have hl1 := hL.1
  have HL := Lib.hid hL; clear hL
  obtain ⟨W1, hW1⟩ : ∃ W, w.alloc (.cells #[] 23) = W := ⟨_, rfl⟩
  have hb1 : Below w.heap.size w W1 := by rw [← hW1]; exact (Below.refl w.heap.size w).alloc (Nat.le_refl _) _
  have hs1 : w.heap.size + 1 ≤ W1.heap.size := by rw [← hW1]; simp
  have ho1 : OwnX W1 w.heap.size (.slice (some ⟨w.heap.size, 0, none⟩) 0 0) [] := by rw [← hW1]; exact OwnX.made w w.heap.size (Nat.le_refl _)
  have hb2 := (Below.refl W1.heap.size W1).alloc (Nat.le_refl _) (.cells #[.int .i64 2, .int .i64 3, .int .i64 1, .int .i64 4, .int .i64 0, .int .i64 5] 3)
  go_enter Try.func200, Try.ntmps200
  go_wp2_with fail
  refine (s_one ((hr.below hb1 hlt).below hb2 (by omega)) (by omega) (litW W1 _ [2, 3, 1, 4, 0, 5] rfl) (by simp) (by simp) (.inr (by omega)) (by simp)).mono ?_
  rintro e w2 ⟨n, rfl, hn, hr2, hu2⟩
  have hn5 : 0 ≤ n ∧ n ≤ 5 := by simp at hn; omega
  have ho2 := (ho1.below hb2).upd hu2 hlt
  have hU2 : UpB b w.heap.size w w2 := (((UpB.refl b w.heap.size w).below hb1 (Nat.le_refl _)).below hb2 (by omega)).upd hu2
  have hs2 := hU2.size
  clear hr hb1 hb2 ho1 hu2 hn hs1
  go_wp2
  clear hW1
  go_loopw [5, 6] (fun v q wr => ∃ (a : Option Addr) (c : Nat) (l : List (List Int)) (d : Nat), v = .slice a l.length c ∧ q = .int .i64 ((l.length : Int) + d) ∧ OwnX wr w.heap.size (.slice a l.length c) l ∧ l.length + d ≤ 5 ∧ Hid (∀ r ∈ l, LP N r) ∧ Rdr wr b (K + 1 + (5 - d) * 44) ∧ UpB b w.heap.size w wr) (fun v q _ => (intOf q - lenV v).toNat)
  case atStart => exact ⟨_, _, [], n.toNat, rfl, by go_num, ho2, by simp; omega, by simp [Hid], hr2.mono (by omega), hU2⟩
  case round =>
    clear ho2 hr2 hU2
    obtain ⟨al, cl, l, d, rfl, rfl, ho, hl9, hLl, hr, hU⟩ := hrel
    have hlw := hr.lt
    have hszr := hU.size
    by_cases hd0 : d = 0
    · subst hd0
      go_wp2
      go_ret
      exact ⟨al, cl, l, rfl, ho, ⟨by omega, hLl.out⟩, hr.mono (by omega), hU⟩
    · obtain ⟨d', rfl⟩ : ∃ d', d = d' + 1 := ⟨d - 1, by omega⟩
      have hmq := hm.upB hU hhi hhi hlo
      clear hd0
      go_wp2_with fail
      refine (s_aPattern hr hmq (by omega) hlo HL.out (by omega)).mono ?_
      rintro e w6 ⟨a6, c6, r, rfl, ho6, hl6, hr6, hU6⟩
      have HL6 := Lib.hid hl6
      have hl6n := hl6.1
      have hs6 := hU6.size
      have hX6 := ho.upB hU6 hlt
      have hoff : ∀ g, (Value.slice al l.length cl).ownBlock = some g → g < wr.heap.size := fun g hg => (ho.lt g hg).2
      obtain ⟨a7, c7, e7, hoi⟩ := ho6.slice
      cases e7
      have hri := hoi.ri
      have hcp := hoi.cap
      have HOF := Lib.hid hoff
      have hU6l := hU6.less (show w.heap.size ≤ wr.heap.size by omega)
      clear hl6 hoff hU6 hmq
      go_wp2_with fail
      refine (s_strength hri (by omega)).mono ?_
      rintro e w7 ⟨rfl, d7⟩
      have d7 : Dr w6 w7 := d7
      have hb7 := Dr.below d7 w6.heap.size
      have hX6 := hX6.below hb7
      have hri := hri.dr d7
      have hr6 := hr6.below hb7 hr6.lt
      have hU6l := hU6l.below hb7 (by omega)
      have hs7 := Dr.le d7
      clear d7 hb7
      by_cases hst : 0 < strN r
      · have hgt : (0 : Int) < (strN r : Int) := by omega

        clear ho6 ho hoi
        go_wp2_with (first
          | (at_builtin; refine wpList_appX rfl (.tmp 27) (.tmp 29) rfl w.heap.size wr.heap.size w6.heap.size _ l rfl hX6 (by omega) r a6 r.length c6 rfl hri hcp (by omega) (by omega) HOF.out w7.heap.size rfl rfl (by omega) ?_; intro v8 w8 hown8 hb8 _; obtain ⟨a8, c8, hv8, _⟩ := hown8.riic; subst hv8)
          | go_in)
        have hr8 := hr6.below hb8 (by omega)
        have hU8 := (hU.trans hU6l).below hb8 (Nat.le_refl _)
        have HL8 := Lib.hid (SP.snoc hLl.out HL6.out)
        clear hX6 hri hr6 hU6l hU hb8
        go_roundw
        case rel => exact ⟨a8, c8, l ++ [r], d', by simp, by go_num, hown8, by simp; omega, HL8, hr8.mono (by omega), hU8⟩
        case measure => simp [lenV, intOf]; omega
      · have hgt : ¬ (0 : Int) < (strN r : Int) := by omega
        go_wp2_with fail
        refine (s_pick hr6 (by omega) (by omega) (by omega)).mono ?_
        rintro e w9 ⟨v, rfl, hv, hr9, hu9⟩
        have hX6 := hX6.upd hu9 hlt
        have hri := hri.upd hu9 (by omega) (.inr (by omega))
        have hU6l := hU6l.upd hu9
        have hs9 := hu9.size
        have hr6 := hr9
        have hv0 := hv.1
        clear hr9 hu9 hv
        by_cases e0 : v = 0
        · subst e0
          clear ho6 ho hoi
          go_wp2_with (first
            | (at_builtin; refine wpList_appX rfl (.tmp 27) (.tmp 29) rfl w.heap.size wr.heap.size w6.heap.size _ l rfl hX6 (by omega) r a6 r.length c6 rfl hri hcp (by omega) (by omega) HOF.out w9.heap.size rfl rfl (by omega) ?_; intro v8 w8 hown8 hb8 _; obtain ⟨a8, c8, hv8, _⟩ := hown8.riic; subst hv8)
            | go_in)
          have hr8 := hr6.below hb8 (by omega)
          have hU8 := (hU.trans hU6l).below hb8 (Nat.le_refl _)
          have HL8 := Lib.hid (SP.snoc hLl.out HL6.out)
          clear hX6 hri hr6 hU6l hU hb8
          go_roundw
          case rel => exact ⟨a8, c8, l ++ [r], d', by simp, by go_num, hown8, by simp; omega, HL8, hr8.mono (by omega), hU8⟩
          case measure => simp [lenV, intOf]; omega
        · have hvne : (v == 0) = false := by rw [beq_eq_false_iff_ne]; exact e0
          have hU9 := hU.trans hU6l
          have hXl := hX6
          clear ho6 ho hoi hX6 hri hU6l hU
          go_wp2
          go_roundw
          case rel => exact ⟨al, cl, l, d', rfl, by go_num, hXl, by omega, hLl, hr6.mono (by omega), hU9⟩
          case measure => simp [lenV, intOf]; omega

set_option maxRecDepth 100000 in
set_option maxHeartbeats 4000000 in
theorem s_someBans {b K N B n c : Nat} {a : Option Addr} {m : List Int} {w : World} (hr : Rdr w b K) (hm : OwnL w B (.slice a n c) m) (hn : n = m.length) (hbB : b < B) (hBw : B ≤ w.heap.size) (hL : LP N m) (hN : N ≤ 18) (hK : K ≤ 400000) :
    Calls Try.prog 124 #[.pointer (some ⟨b, 0, none⟩), .slice a n c] w (fun e w' => ∃ (a1 : Option Addr) (c1 : Nat) (mm : List (List Int)), e = .returned (.slice a1 mm.length c1) ∧ OwnX w' w.heap.size (.slice a1 mm.length c1) mm ∧ SQ (N + 2) mm ∧ Rdr w' b (K + 1000) ∧ RI w' B w'.heap.size a m ∧ UpB b B w w') := by
  subst hn
  have hlt := hr.lt
  have hl1 := hL.1
  have HL := Lib.hid hL; clear hL
  obtain ⟨a0, c0, e0, hoi⟩ := hm.slice
  cases e0
  have hmr := hoi.ri
  clear hoi
  go_enter Try.func124, Try.ntmps124
  go_wp2_with fail
  refine (s_aBans hr hmr (Nat.le_refl _) hbB HL.out (by omega) (by omega)).mono ?_
  rintro e w1 ⟨a1, c1, l, rfl, ho1, hl, hr1, hU1⟩
  have hll := hl.1
  have HLl := Lib.hid hl
  have hs1 := hU1.size
  have hm1 := hm.same fun g h1 h2 => hU1.block g h2 h2 (by omega)
  have hmW1 := hmr.upB hU1 (Nat.le_refl _) (Nat.le_refl _) hbB
  have HOWN : Hid (∀ g, Value.ownBlock (.slice a m.length c) = some g → g < w.heap.size) := fun g hg => (World.ownsRow.lt hm g hg).2
  have hU1B := hU1.less hBw
  clear hr hmr hm hl
  go_wp2_with fail
  refine (s_pick hr1 (by omega) (by omega) (by omega)).mono ?_
  rintro e w2 ⟨v, rfl, hv, hr2, hu2⟩
  have hv0 := hv.1
  have ho2 := ho1.upd hu2 (by omega)
  have hm2 := hm1.upd hu2 hbB
  have hU2 := hU1B.upd hu2
  have hU2w := hU1.upd hu2
  have hs2 := hU2.size
  have HUPD : Hid (SQ (N + 2) l) := ⟨by have := HLl.out.1; omega, fun r h => (HLl.out.2 r h).mono (by omega)⟩
  have hmW := hmW1.upd hu2 (by omega) (.inr (by omega))
  clear ho1 hr1 hU1 hu2 hv hm1 hU1B hmW1
  by_cases e0 : v = 0
  · subst e0
    have hbnd : m.length ≤ 1099511627776 := by omega
    go_wp2_with (at_builtin; refine run_app1kL rfl (.tmp 15) (.tmp 16) rfl B a m.length c m rfl hm2 2 w2.heap.size rfl rfl hbnd (by omega) ?_; intro v3 w3 hown3 hb3 hmr3 hkp3; obtain ⟨m2, EM, hown3⟩ := named hown3; obtain ⟨a3, c3, hv3, hoi3⟩ := hown3.slice; subst hv3)
    have hz3 := hb3.size
    have hr3 := hr2.below hb3 hbB
    have ho3 := ho2.same hz3 fun g h1 h2 => hkp3 g h2 fun e => by have := HOWN.out g e; omega
    have HL3 : Hid (LP (N + 1) m2) := by show LP _ _; rw [EM.out]; exact HL.out.snoc (by omega)
    have hU3 := hU2.trans ⟨hb3.os, hb3.tape, hb3.output, hb3.size, fun j hj hjB _ => hb3.block j hjB⟩
    have hmW3 : RI w3 B w.heap.size a m := hmr3.own HOWN.out
    have hri3 := hoi3.ri
    clear ho2 hr2 hb3 hkp3 hoi3 hown3 hm2 hmr3 hU2 hU2w
    go_wp2_with fail
    refine (s_somePattern hr3 hri3 (Nat.le_refl _) hbB HL3.out (by omega)).mono ?_
    rintro e w4 ⟨a4, c4, r, rfl, ho4, hLr, hr4, hU4⟩
    have hs4 := hU4.size
    have hX4 := ho3.upB hU4 (by omega)
    have hLrn := hLr.1
    have HLr := Lib.hid hLr
    have HOF : Hid (∀ g, (Value.slice a1 l.length c1).ownBlock = some g → g < w3.heap.size) := fun g hg => (ho3.lt g hg).2
    obtain ⟨a5, c5, e5, hoi⟩ := ho4.slice
    cases e5
    have hri := hoi.ri
    have hcp := hoi.cap
    have hU4B := hU3.trans (hU4.less (show B ≤ w3.heap.size by omega))
    have hmW4 := hmW3.upB hU4 (by omega) (by omega) hbB
    have HSP : Hid (SQ (N + 2) (l ++ [r])) := by
      refine ⟨?_, fun q hq => ?_⟩
      · simp; omega
      · rcases List.mem_append.1 hq with hq | hq
        · exact (HLl.out.2 q hq).mono (by omega)
        · simp at hq; subst hq; exact HLr.out
    clear ho3 ho4 hoi hLr hU4 hU3 hri3 hmW3
    go_wp2_with (first
      | (at_builtin; refine wpList_appX rfl (.tmp 13) (.tmp 19) rfl w.heap.size w3.heap.size w4.heap.size _ l rfl hX4 (by omega) r a4 r.length c4 rfl hri hcp (by omega) (Nat.le_refl _) HOF.out w4.heap.size rfl rfl (by omega) ?_; intro v8 w8 hown8 hb8 _; obtain ⟨l2, EL2⟩ : ∃ l2, l ++ [r] = l2 := ⟨_, rfl⟩; rw [EL2] at hown8; obtain ⟨a8, c8, hv8, _⟩ := hown8.riic; subst hv8)
      | go_in)
    have HSP2 : Hid (SQ (N + 2) l2) := by show SQ _ _; rw [← EL2]; exact HSP.out
    have hr8 := hr4.below hb8 hlt
    have hU8 := hU4B.below hb8 (by omega)
    have hmW8 := hmW4.below hb8 (Nat.le_refl _)
    have hz8 := hb8.size
    clear hX4 hri hr4 hU4B hb8 hmW4
    go_ret
    exact ⟨a8, c8, l2, rfl, hown8, HSP2.out, hr8.mono (by omega), hmW8.wide (Nat.le_refl _) (by omega), hU8⟩
  by_cases e1 : v = 1
  · subst e1
    have hlN := hl1
    have hz2 := hs2
    have HOL : Hid (∀ g, (Value.slice a1 l.length c1).ownBlock = some g → g < w2.heap.size) := fun g hg => (ho2.lt g hg).2
    go_wp2_with fail
    refine (s_aPattern hr2 hmW (by omega) hbB HL.out (by omega)).mono ?_
    rintro e y1 ⟨b1, d1, r1, rfl, op1, lp1, hq1, Uq1⟩
    have zq1 := Uq1.size
    have hX1 := ho2.upB (Uq1.less (by omega)) (by omega)
    have hmW1 := hmW.upB Uq1 (by omega) (by omega) hbB
    obtain ⟨_, _, e1, oi1⟩ := op1.slice
    cases e1
    have ri1 := oi1.ri
    have cp1 := oi1.cap
    have LP1 := Lib.hid (lp1.mono (show N ≤ N + 2 by omega))
    have ln1 := lp1.1
    have UU1 := hU2.trans (Uq1.less (show B ≤ _ by omega))
    clear op1 oi1 lp1
    go_wp2_with fail
    refine (s_aPattern hq1 hmW1 (by omega) hbB HL.out (by omega)).mono ?_
    rintro e y2 ⟨b2, d2, r2, rfl, op2, lp2, hq2, Uq2⟩
    have zq2 := Uq2.size
    have hX2 := hX1.upB (Uq2.less (by omega)) (by omega)
    have hmW2 := hmW1.upB Uq2 (by omega) (by omega) hbB
    obtain ⟨_, _, e2, oi2⟩ := op2.slice
    cases e2
    have ri2 := oi2.ri
    have cp2 := oi2.cap
    have LP2 := Lib.hid (lp2.mono (show N ≤ N + 2 by omega))
    have ln2 := lp2.1
    have UU2 := UU1.trans (Uq2.less (show B ≤ _ by omega))
    clear op2 oi2 lp2
    have ri1 := ri1.upB Uq2 (by omega) (by omega) (by omega)
    go_wp2_with fail
    refine (s_aPattern hq2 hmW2 (by omega) hbB HL.out (by omega)).mono ?_
    rintro e y3 ⟨b3, d3, r3, rfl, op3, lp3, hq3, Uq3⟩
    have zq3 := Uq3.size
    have hX3 := hX2.upB (Uq3.less (by omega)) (by omega)
    have hmW3 := hmW2.upB Uq3 (by omega) (by omega) hbB
    obtain ⟨_, _, e3, oi3⟩ := op3.slice
    cases e3
    have ri3 := oi3.ri
    have cp3 := oi3.cap
    have LP3 := Lib.hid (lp3.mono (show N ≤ N + 2 by omega))
    have ln3 := lp3.1
    have UU3 := UU2.trans (Uq3.less (show B ≤ _ by omega))
    clear op3 oi3 lp3
    have ri1 := ri1.upB Uq3 (by omega) (by omega) (by omega)
    have ri2 := ri2.upB Uq3 (by omega) (by omega) (by omega)
    go_wp2_with fail
    refine (s_aPattern hq3 hmW3 (by omega) hbB HL.out (by omega)).mono ?_
    rintro e y4 ⟨b4, d4, r4, rfl, op4, lp4, hq4, Uq4⟩
    have zq4 := Uq4.size
    have hX4 := hX3.upB (Uq4.less (by omega)) (by omega)
    have hmW4 := hmW3.upB Uq4 (by omega) (by omega) hbB
    obtain ⟨_, _, e4, oi4⟩ := op4.slice
    cases e4
    have ri4 := oi4.ri
    have cp4 := oi4.cap
    have LP4 := Lib.hid (lp4.mono (show N ≤ N + 2 by omega))
    have ln4 := lp4.1
    have UU4 := UU3.trans (Uq4.less (show B ≤ _ by omega))
    clear op4 oi4 lp4
    have ri1 := ri1.upB Uq4 (by omega) (by omega) (by omega)
    have ri2 := ri2.upB Uq4 (by omega) (by omega) (by omega)
    have ri3 := ri3.upB Uq4 (by omega) (by omega) (by omega)
    go_wp2_with fail
    refine (s_aPattern hq4 hmW4 (by omega) hbB HL.out (by omega)).mono ?_
    rintro e y5 ⟨b5, d5, r5, rfl, op5, lp5, hq5, Uq5⟩
    have zq5 := Uq5.size
    have hX5 := hX4.upB (Uq5.less (by omega)) (by omega)
    have hmW5 := hmW4.upB Uq5 (by omega) (by omega) hbB
    obtain ⟨_, _, e5, oi5⟩ := op5.slice
    cases e5
    have ri5 := oi5.ri
    have cp5 := oi5.cap
    have LP5 := Lib.hid (lp5.mono (show N ≤ N + 2 by omega))
    have ln5 := lp5.1
    have UU5 := UU4.trans (Uq5.less (show B ≤ _ by omega))
    clear op5 oi5 lp5
    have ri1 := ri1.upB Uq5 (by omega) (by omega) (by omega)
    have ri2 := ri2.upB Uq5 (by omega) (by omega) (by omega)
    have ri3 := ri3.upB Uq5 (by omega) (by omega) (by omega)
    have ri4 := ri4.upB Uq5 (by omega) (by omega) (by omega)
    go_wp2_with fail
    refine (s_aPattern hq5 hmW5 (by omega) hbB HL.out (by omega)).mono ?_
    rintro e y6 ⟨b6, d6, r6, rfl, op6, lp6, hq6, Uq6⟩
    have zq6 := Uq6.size
    have hX6 := hX5.upB (Uq6.less (by omega)) (by omega)
    have hmW6 := hmW5.upB Uq6 (by omega) (by omega) hbB
    obtain ⟨_, _, e6, oi6⟩ := op6.slice
    cases e6
    have ri6 := oi6.ri
    have cp6 := oi6.cap
    have LP6 := Lib.hid (lp6.mono (show N ≤ N + 2 by omega))
    have ln6 := lp6.1
    have UU6 := UU5.trans (Uq6.less (show B ≤ _ by omega))
    clear op6 oi6 lp6
    have ri1 := ri1.upB Uq6 (by omega) (by omega) (by omega)
    have ri2 := ri2.upB Uq6 (by omega) (by omega) (by omega)
    have ri3 := ri3.upB Uq6 (by omega) (by omega) (by omega)
    have ri4 := ri4.upB Uq6 (by omega) (by omega) (by omega)
    have ri5 := ri5.upB Uq6 (by omega) (by omega) (by omega)
    have hXw : OwnX y6 w.heap.size (.slice a1 l.length c1) l := hX6
    have hcell : Hid (∀ (k : Nat) (q : List Int), ([r1, r2, r3, r4, r5, r6] : List (List Int))[k]? = some q → ∃ a' c', (#[.slice b1 r1.length d1, .slice b2 r2.length d2, .slice b3 r3.length d3, .slice b4 r4.length d4, .slice b5 r5.length d5, .slice b6 r6.length d6] : Array Value)[k]? = some (Value.slice a' q.length c') ∧ q.length ≤ c' ∧ ∃ lo hi, RI y6 lo hi a' q ∧ w.heap.size ≤ lo ∧ hi ≤ y6.heap.size ∧ ∀ g, (Value.slice a1 l.length c1).ownBlock = some g → g < lo) := by
      intro k q hq
      have hk := lt_of_at hq
      simp at hk
      obtain rfl | rfl | rfl | rfl | rfl | rfl : k = 0 ∨ k = 1 ∨ k = 2 ∨ k = 3 ∨ k = 4 ∨ k = 5 := by omega
      · obtain rfl : r1 = q := by simpa using hq
        exact ⟨_, _, rfl, cp1, _, _, ri1, by omega, by omega, fun g hg => by have := HOL.out g hg; omega⟩
      · obtain rfl : r2 = q := by simpa using hq
        exact ⟨_, _, rfl, cp2, _, _, ri2, by omega, by omega, fun g hg => by have := HOL.out g hg; omega⟩
      · obtain rfl : r3 = q := by simpa using hq
        exact ⟨_, _, rfl, cp3, _, _, ri3, by omega, by omega, fun g hg => by have := HOL.out g hg; omega⟩
      · obtain rfl : r4 = q := by simpa using hq
        exact ⟨_, _, rfl, cp4, _, _, ri4, by omega, by omega, fun g hg => by have := HOL.out g hg; omega⟩
      · obtain rfl : r5 = q := by simpa using hq
        exact ⟨_, _, rfl, cp5, _, _, ri5, by omega, by omega, fun g hg => by have := HOL.out g hg; omega⟩
      · obtain rfl : r6 = q := by simpa using hq
        exact ⟨_, _, rfl, cp6, _, _, ri6, by omega, by omega, fun g hg => by have := HOL.out g hg; omega⟩
    obtain ⟨L6, hL6⟩ : ∃ L6 : List (List Int), [r1, r2, r3, r4, r5, r6] = L6 := ⟨_, rfl⟩
    have h66 : 6 = L6.length := by rw [← hL6]; rfl
    rw [hL6] at hcell
    have HL6 := Lib.hid hL6
    clear hL6
    have h66b : L6.length ≤ 1099511627776 := by omega
    have H66 := Lib.hid h66
    clear h66
    go_wp2_with (first
      | (at_builtin; refine wpList_appXN rfl (.tmp 23) (.tmp 42) rfl w.heap.size _ l L6 rfl hXw (by omega) _ 6 H66.out rfl hcell.out y6.heap.size rfl rfl (by omega) h66b ?_; intro v8 w8 hown8 hb8; obtain ⟨L8, hL8⟩ : ∃ L8, l ++ L6 = L8 := ⟨_, rfl⟩; rw [hL8] at hown8; obtain ⟨a8, c8, hv8, _⟩ := hown8.riic; subst hv8)
      | go_in)
    have HSQ : Hid (SQ (N + 2) L8) := by
      show SQ _ _
      rw [← hL8, ← HL6.out]
      refine ⟨by simp; omega, fun q hq => ?_⟩
      rcases List.mem_append.1 hq with hq | hq
      · exact (HLl.out.2 q hq).mono (by omega)
      · simp at hq
        rcases hq with rfl | rfl | rfl | rfl | rfl | rfl
        · exact LP1.out
        · exact LP2.out
        · exact LP3.out
        · exact LP4.out
        · exact LP5.out
        · exact LP6.out
    have hz8 := hb8.size
    have hr8 := hq6.below hb8 (by omega)
    have hU8 := UU6.below hb8 (by omega)
    have hm8 := hmW6.below hb8 (by omega)
    clear hL8
    go_ret
    exact ⟨a8, c8, L8, rfl, hown8, HSQ.out, hr8.mono (by omega), hm8.wide (Nat.le_refl _) (by omega), hU8⟩
  have hv2 : 2 ≤ v := by omega
  go_wp2
  go_ret
  exact ⟨a1, c1, l, rfl, ho2, HUPD.out, hr2.mono (by omega), hmW.wide (Nat.le_refl _) (by omega), hU2⟩

set_option maxRecDepth 100000 in
set_option maxHeartbeats 2000000 in
theorem s_DrawPossiblePatterns {n : Nat} {a : Option Addr} {c : Nat} {w : World} (hm : RB w w.heap.size a n) (hc : n ≤ c) (hl : n ≤ 1048576) :
    Calls Try.prog 35 #[.slice a n c] w (DrS w) := by
  go_enter Try.func35, Try.ntmps35
  go_wp2_with fail
  refine (s_newReader hm hc hl).mono ?_
  rintro e w1 ⟨rfl, hr1, hb1⟩
  have hlt := hr1.lt
  go_wp2_with fail
  refine (s_goodModel hr1 (by omega)).mono ?_
  rintro e w2 ⟨a2, c2, m2, rfl, ho2, hL2, hr2, hU2⟩
  go_wp2_with fail
  refine (s_bentModel hr2 (by omega) ho2 rfl hL2 (by omega) hlt hU2.size).mono ?_
  rintro e w3 ⟨a3, c3, m3, rfl, ho3, hL3, hr3, hU3⟩
  have hU := hU2.trans hU3
  have hcap := ho3.cap.2
  have hs3 := hU.size
  clear ho2 hL2 hr2 hU2 hU3 hr1
  go_wp2_with fail
  refine (s_someBans hr3 ho3 rfl hlt hs3 hL3 (by omega) (by omega)).mono ?_
  rintro e w4 ⟨a4, c4, s, rfl, ho4, hS4, hr4, hm4, hU4⟩
  have hs4 := hU4.size
  obtain ⟨a5, c5, e5, hR⟩ := ho4.riic
  cases e5
  have hUU := hU.trans hU4
  clear ho3 hr3 hU hU4 ho4
  go_wp2_with fail
  refine (s_aStrength hr4 (by omega)).mono ?_
  rintro e w5 ⟨t, rfl, ht, hr5, hU5⟩
  have hs5 := hU5.size
  have hm5 := hm4.upB hU5 (Nat.le_refl _) (Nat.le_refl _) hlt
  have hR5 : RIIc w5 w3.heap.size w4.heap.size a4 c4 s := ⟨hR.rii.same fun k h1 h2 => hU5.block k h2 h2 (by omega), hR.cap⟩
  have hU6 := hUU.trans (hU5.less (show w1.heap.size ≤ w4.heap.size by omega))
  clear hm4 hR hUU hU5 hr4
  go_wp2
  go_ret3
  exact ⟨_, _, m3, _, _, s, t, rfl, ⟨⟨hm5.wide (by omega) hs5, hL3, hcap⟩, ⟨hR5.wide (by omega) hs5, hS4⟩, ht⟩, hb1.trans (hU6.toBelow (by omega) (by omega))⟩

set_option maxRecDepth 100000 in
set_option maxHeartbeats 2000000 in
theorem s_DrawIsPossible {n : Nat} {a : Option Addr} {c : Nat} {w : World} (hm : RB w w.heap.size a n) (hc : n ≤ c) (hl : n ≤ 1048576) :
    Calls Try.prog 31 #[.slice a n c] w (fun e w' => ∃ (a1 : Option Addr) (c1 : Nat) (m : List Int) (a2 : Option Addr) (c2 : Nat) (s : List (List Int)) (a3 : Option Addr) (c3 : Nat) (p : List Int), e = .returned (.tuple #[.slice a1 m.length c1, .slice a2 s.length c2, .slice a3 p.length c3]) ∧ (Got w w' 10 a1 c1 m ∧ GotS w w' 12 a2 c2 s ∧ Got w w' 11 a3 c3 p) ∧ Below w.heap.size w w') := by
  go_enter Try.func31, Try.ntmps31
  go_wp2_with fail
  refine (s_newReader hm hc hl).mono ?_
  rintro e w1 ⟨rfl, hr1, hb1⟩
  have hlt := hr1.lt
  go_wp2_with fail
  refine (s_goodModel hr1 (by omega)).mono ?_
  rintro e w2 ⟨a2, c2, m2, rfl, ho2, hL2, hr2, hU2⟩
  go_wp2_with fail
  refine (s_bentModel hr2 (by omega) ho2 rfl hL2 (by omega) hlt hU2.size).mono ?_
  rintro e w3 ⟨a3, c3, m3, rfl, ho3, hL3, hr3, hU3⟩
  have hU := hU2.trans hU3
  have hcap := ho3.cap.2
  have hs3 := hU.size
  clear ho2 hL2 hr2 hU2 hU3 hr1
  go_wp2_with fail
  refine (s_someBans hr3 ho3 rfl hlt hs3 hL3 (by omega) (by omega)).mono ?_
  rintro e w4 ⟨a4, c4, s, rfl, ho4, hS4, hr4, hm4, hU4⟩
  have hs4 := hU4.size
  obtain ⟨a5, c5, e5, hR⟩ := ho4.riic
  cases e5
  have hUU := hU.trans hU4
  clear ho3 hr3 hU hU4 ho4
  go_wp2_with fail
  refine (s_somePattern hr4 hm4 (Nat.le_refl _) hlt hL3 (by omega)).mono ?_
  rintro e w5 ⟨a6, c6, p, rfl, ho5, hL5, hr5, hU5⟩
  have hs5 := hU5.size
  have hm5 := hm4.upB hU5 (Nat.le_refl _) (Nat.le_refl _) hlt
  have hR5 : RIIc w5 w3.heap.size w4.heap.size a4 c4 s := ⟨hR.rii.same fun k h1 h2 => hU5.block k h2 h2 (by omega), hR.cap⟩
  have hU6 := hUU.trans (hU5.less (show w1.heap.size ≤ w4.heap.size by omega))
  have hcap6 := ho5.cap.2
  obtain ⟨a7, c7, e7, hoi⟩ := ho5.slice
  cases e7
  have hri := hoi.ri
  clear hm4 hR hUU hU5 hr4 hoi ho5
  go_wp2
  go_ret3
  exact ⟨_, _, m3, _, _, s, _, _, p, rfl, ⟨⟨hm5.wide (by omega) hs5, hL3, hcap⟩, ⟨hR5.wide (by omega) hs5, hS4⟩, ⟨hri.wide (by omega) (Nat.le_refl _), hL5, hcap6⟩⟩, hb1.trans (hU6.toBelow (by omega) (by omega))⟩


set_option maxRecDepth 100000 in
set_option maxHeartbeats 2000000 in
theorem s_DrawValidBans {n : Nat} {a : Option Addr} {c : Nat} {w : World} (hm : RB w w.heap.size a n) (hc : n ≤ c) (hl : n ≤ 1048576) :
    Calls Try.prog 27 #[.slice a n c] w (fun e w' => ∃ (a1 : Option Addr) (c1 : Nat) (m : List Int) (a2 : Option Addr) (c2 : Nat) (s : List (List Int)), e = .returned (.tuple #[.slice a1 m.length c1, .slice a2 s.length c2]) ∧ (Got w w' 10 a1 c1 m ∧ GotS w w' 12 a2 c2 s) ∧ Below w.heap.size w w') := by
  go_enter Try.func27, Try.ntmps27
  go_wp2_with fail
  refine (s_newReader hm hc hl).mono ?_
  rintro e w1 ⟨rfl, hr1, hb1⟩
  have hlt := hr1.lt
  go_wp2_with fail
  refine (s_goodModel hr1 (by omega)).mono ?_
  rintro e w2 ⟨a2, c2, m2, rfl, ho2, hL2, hr2, hU2⟩
  go_wp2_with fail
  refine (s_bentModel hr2 (by omega) ho2 rfl hL2 (by omega) hlt hU2.size).mono ?_
  rintro e w3 ⟨a3, c3, m3, rfl, ho3, hL3, hr3, hU3⟩
  have hU := hU2.trans hU3
  have hcap := ho3.cap.2
  have hs3 := hU.size
  clear ho2 hL2 hr2 hU2 hU3 hr1
  go_wp2_with fail
  refine (s_someBans hr3 ho3 rfl hlt hs3 hL3 (by omega) (by omega)).mono ?_
  rintro e w4 ⟨a4, c4, s, rfl, ho4, hS4, hr4, hm4, hU4⟩
  have hs4 := hU4.size
  obtain ⟨a5, c5, e5, hR⟩ := ho4.riic
  cases e5
  have hUU := hU.trans hU4
  clear ho3 hr3 hU hU4 ho4
  go_wp2
  go_ret2
  exact ⟨_, _, m3, _, _, s, rfl, ⟨⟨hm4.wide (by omega) (Nat.le_refl _), hL3, hcap⟩, ⟨hR.wide (by omega) (Nat.le_refl _), hS4⟩⟩, hb1.trans (hUU.toBelow (by omega) (by omega))⟩

end Go.Proofs.Ytehoagbpgahopaa
