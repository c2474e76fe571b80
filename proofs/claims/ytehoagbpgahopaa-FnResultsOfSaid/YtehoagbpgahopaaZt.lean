/- Which suites cover what is allowed (a lower strength too; without bans as ever); the draw of IsAllowedCovering. -/
import Derived.Test.YtehoagbpgahopaaYh
import Derived.Test.YtehoagbpgahopaaZp
import Derived.Test.YtehoagbpgahopaaZa
import Derived.Test.YtehoagbpgahopaaZl
namespace Go.Proofs.Ytehoagbpgahopaa
open Go.RowKit

theorem mB_cons {a b : Int} {p x : List Int} : mB (a :: p) (b :: x) = ((a == -1 || a == b) && mB p x) := by simp [mB]
theorem pat_full : ∀ {m p : List Int}, m.all lvl = true → okW (-1) m p = true → ∃ x, okW 0 m x = true ∧ mB p x = true
  | [], p, _, h => by
    have := okW_len h
    cases p with
    | nil => exact ⟨[], by simp [okW], by simp [mB]⟩
    | cons a p => simp at this
  | l :: m, p, hm, h => by
    have hl := okW_len h
    cases p with
    | nil => simp at hl
    | cons a p =>
      rw [okW_cons, Bool.and_eq_true] at h
      rw [List.all_cons, Bool.and_eq_true] at hm
      have h1 := inR_true.1 h.2
      have h2 := inR_true.1 hm.1
      obtain ⟨x, hx, hmx⟩ := pat_full hm.2 h.1
      by_cases e : a = -1
      · refine ⟨0 :: x, ?_, ?_⟩
        · rw [okW_cons, hx, Bool.true_and, inR_true]; omega
        · rw [mB_cons, hmx, e]; rfl
      · refine ⟨a :: x, ?_, ?_⟩
        · rw [okW_cons, hx, Bool.true_and, inR_true]; omega
        · rw [mB_cons, hmx]; simp
theorem pat_more : ∀ {m p x : List Int}, okW (-1) m p = true → okW 0 m x = true → mB p x = true → strN p < p.length → ∃ q, okW (-1) m q = true ∧ strN q = strN p + 1 ∧ mB q x = true ∧ ∀ y, mB q y = true → mB p y = true
  | [], p, x, h, _, _, hs => by
    have hl := okW_len h
    simp at hl
    subst hl
    simp at hs
  | l :: m, p, x, h, hx, hmx, hs => by
    have hl := okW_len h
    have hlx := okW_len hx
    cases p with
    | nil => simp at hl
    | cons a p =>
      cases x with
      | nil => simp at hlx
      | cons b x =>
        rw [okW_cons, Bool.and_eq_true] at h hx
        rw [mB_cons, Bool.and_eq_true] at hmx
        have h1 := inR_true.1 h.2
        have h2 := inR_true.1 hx.2
        by_cases e : a = -1
        · subst e
          refine ⟨b :: p, ?_, ?_, ?_, fun y hy => ?_⟩
          · rw [okW_cons, h.1, Bool.true_and, inR_true]; omega
          · have hb : (b != -1) = true := by simp; omega
            rw [strN_cons, strN_cons, hb]; simp
          · rw [mB_cons, hmx.2]; simp
          · cases y with
            | nil => simp [mB]
            | cons c y => rw [mB_cons, Bool.and_eq_true] at hy; rw [mB_cons, hy.2]; rfl
        · have ha : (a != -1) = true := by simpa using e
          rw [strN_cons, ha] at hs
          obtain ⟨q, q1, q2, q3, q4⟩ := pat_more h.1 hx.1 hmx.2 (by simp at hs; omega)
          refine ⟨a :: q, ?_, ?_, ?_, fun y hy => ?_⟩
          · rw [okW_cons, q1, h.2]; rfl
          · rw [strN_cons, strN_cons, q2, ha]; simp
          · rw [mB_cons, q3, hmx.1]; rfl
          · cases y with
            | nil => simp [mB]
            | cons c y => rw [mB_cons, Bool.and_eq_true] at hy ⊢; exact ⟨hy.1, q4 y hy.2⟩

theorem ia_mono {m : List Int} {b s : List (List Int)} {t : Int} (h : iaB m b s t = true) (ht : 0 < t) : iaB m b s (t - 1) = true := by
  unfold iaB okC at h ⊢
  simp only [Bool.and_eq_true] at h ⊢
  obtain ⟨⟨⟨⟨⟨h0, h1⟩, h2⟩, h3⟩, h4⟩, h5⟩ := h
  have h2 := inR_true.1 h2
  refine ⟨⟨⟨⟨⟨h0, h1⟩, inR_true.2 ⟨by omega, by omega⟩⟩, h3⟩, h4⟩, ?_⟩
  rw [List.all_eq_true] at h5 ⊢
  intro p hp
  unfold posP at hp
  obtain ⟨hp1, hp2⟩ := List.mem_filter.1 hp
  obtain ⟨hp3, hp4⟩ := (mem_patS h0).1 hp1
  unfold hasP at hp2
  obtain ⟨x, hx, hpx⟩ := List.any_eq_true.1 hp2
  have hxT := (ext_mem h0).1 (List.mem_filter.1 hx).1
  have hpl := okW_len (lo := -1) hp3
  obtain ⟨q, q1, q2, q3, q4⟩ := pat_more hp3 hxT hpx (by omega)
  have hq : q ∈ posP m b t := by
    unfold posP
    exact List.mem_filter.2 ⟨(mem_patS h0).2 ⟨q1, by omega⟩, List.any_eq_true.2 ⟨x, hx, q3⟩⟩
  have h6 := h5 q hq
  unfold hasP at h6
  obtain ⟨y, hy, hqy⟩ := List.any_eq_true.1 h6
  exact List.any_eq_true.2 ⟨y, hy, q4 y hqy⟩

theorem alL_none {m : List Int} : alL m [] = extS m [] := by
  unfold alL
  rw [List.filter_eq_self]
  intro x _
  simp [bnB]
theorem po_free {m : List Int} {t : Int} (h : okM m = true) : posP m [] t = patS m [] t := by
  unfold posP
  rw [List.filter_eq_self]
  intro p hp
  obtain ⟨x, hx, hm⟩ := pat_full (okM_all h) ((mem_patS h).1 hp).1
  rw [alL_none]
  exact List.any_eq_true.2 ⟨x, (ext_mem h).2 hx, hm⟩
theorem ia_none {m : List Int} {s : List (List Int)} {t : Int} : iaB m [] s t = icB m s t := by
  cases h : okC m s t
  · rw [ia_no (by rw [h]; rfl), ic_no h]
  · have hm : okM m = true := by unfold okC at h; simp only [Bool.and_eq_true] at h; exact h.1.1
    rw [ic_yes h, ia_yes h (by simp [okBn]) (by simp [bnB]), po_free hm]
    unfold misL misP
    rw [Bool.eq_iff_iff, List.all_eq_true]
    simp [List.length_eq_zero_iff]


theorem ownL_keep {w w' : World} {B : Nat} {v : Value} {l : List Int} (h : OwnL w B v l) (hk : ∀ g, v.ownBlock = some g → w'.heap[g]? = w.heap[g]?) : OwnL w' B v l := by
  obtain ⟨h1, h2⟩ := h
  rcases h2 with h2 | ⟨g, cap, cur, rfl, hB, hg, rest⟩
  · exact ⟨h1, .inl h2⟩
  · exact ⟨h1, .inr ⟨g, cap, cur, rfl, hB, by rw [hk g rfl]; exact hg, rest⟩⟩
theorem OwnL.upBs {w w' : World} {b B : Nat} {v : Value} {l : List Int} (h : OwnL w B v l) (hu : UpB b w.heap.size w w') (hb : b < B) : OwnL w' B v l := h.same fun g h1 h2 => hu.block g h2 h2 (by omega)

set_option maxRecDepth 100000 in
theorem run_app1kP {w : World} (ty : TypeId) (B : Nat) (a : Option Addr) (n c : Nat) (l : List Int) (hown : OwnL w B (.slice a n c) l) (x : Int) (nw : Nat) (hnw : nw = w.heap.size) (hl : l.length ≤ 1099511627776) (hB : B ≤ w.heap.size) :
    ∃ v' w', (Builtin.append_ #[23, 23] ty #[.slice a n c, .slice (some ⟨nw, 0, none⟩) 1 1]).run Try.prog (w.alloc (.cells #[.int .i64 x] 3)) = .ok v' w' ∧ OwnL w' B v' (l ++ [x]) ∧ Below B w w' ∧ RI w' B w.heap.size a l ∧ (∀ g, g < w.heap.size → Value.ownBlock (.slice a n c) ≠ some g → w'.heap[g]? = w.heap[g]?) ∧ OwnL w' B (.slice a n c) l := by
  obtain ⟨v', w', hr, ho2, hbl, hri, hkp⟩ := run_app1k ty B a n c l hown x nw hnw hl hB
  refine ⟨v', w', hr, ho2, hbl, hri, hkp, ?_⟩
  subst hnw
  obtain ⟨a0, c0, e0, hoi⟩ := hown.slice
  cases e0
  obtain ⟨i0, hi, hz0, hz1, hz2⟩ := info_parts infoInt
  have hownA := World.ownsRow.alloc hown (.cells #[.int .i64 x] 3)
  rcases hown.2 with ⟨hn, h0⟩ | ⟨g, cap, cur, hv, hbg, hg, hnc, hcm, hcs, ht⟩
  · exact ⟨hown.1, .inl ⟨hn, h0⟩⟩
  · cases hv
    have hgl : g < w.heap.size := (Array.getElem?_eq_some_iff.1 hg).1
    have hgA : (w.alloc (.cells #[.int .i64 x] 3)).heap[g]? = some (.cells cur 3 (0, 0)) := by rw [Below.heap_alloc w _ g hgl]; exact hg
    by_cases hroom : l.length + 1 ≤ c
    · have hr2 := run_append_room (P := Try.prog) (w.alloc (.cells #[.int .i64 x] 3)) 23 ty 3 i0 undI hi g l.length c cur hgA ⟨w.heap.size, 0, none⟩ 1 1 [.int .i64 x] (by rw [hz1]; rfl) (cell_one_new _ _ _) (fun u hu => by simp at hu; subst hu; rfl) hroom (by rw [hz1]; simp; omega)
      rw [hr] at hr2
      cases hr2
      rcases ho2.2 with ⟨hn, h0⟩ | ⟨g', cap', cur', hv', hbg', hg', hnc', hcm', hcs', ht'⟩
      · cases hn
      · injection hv' with e6 e7 e8
        injection e6 with e6
        injection e6 with e6
        subst e6 e8
        refine ⟨hown.1, .inr ⟨g, c, cur', rfl, hbg, hg', hnc, hcm, hcs', ?_⟩⟩
        rw [Nat.mul_one] at ht' ⊢
        have h2 := congrArg (List.take l.length) ht'
        rw [List.take_take, ints_snoc, List.length_append, List.take_append_of_le_length (by rw [ints_len]; omega), List.take_of_length_le (l := ints l) (by rw [ints_len]; omega)] at h2
        rw [← h2]
        congr 1
        omega
    · have holds : ∀ j u, (ints l)[j]? = some u → (w.alloc (.cells #[.int .i64 x] 3)).cell? ((⟨g, 0, none⟩ : Addr).add j) = some u := World.ownsRow.cells hownA (g := g) rfl
      have hr2 := run_append_grow (P := Try.prog) (w.alloc (.cells #[.int .i64 x] 3)) 23 ty 3 i0 (.int .i64 0) undI hi hz0 ⟨g, 0, none⟩ l.length c (ints l) (by rw [ints_len, hz1, Nat.mul_one]) holds ⟨w.heap.size, 0, none⟩ 1 1 [.int .i64 x] (by rw [hz1]; rfl) (cell_one_new _ _ _) (by omega) (by omega) (growslice_fits (by omega) (by rw [hz2]; omega))
      rw [hr] at hr2
      cases hr2
      refine ⟨hown.1, .inr ⟨g, c, cur, rfl, hbg, ?_, hnc, hcm, hcs, ht⟩⟩
      refine Eq.trans ?_ hgA
      exact Below.heap_alloc (w.alloc (.cells #[.int .i64 x] 3)).drew _ g (by simp; omega)
theorem run_app1kO {w : World} {ops : Array Oper} {rest : List Oper} {o : Oper} {a0 : Act} {Q : Exit → Act → World → Prop} (hgd : o.guard = none) (s t : Operand)
    (ho : o.op = .call { callee := .builtin .append, args := #[s, t], argTypes := #[23, 23] }) (B : Nat) (a : Option Addr) (n c : Nat) (l : List Int) (hs : a0.eval s = .slice a n c) (hown : OwnL w B (.slice a n c) l) (x : Int) (nw : Nat) (hnw : nw = w.heap.size)
    (hx : a0.eval t = .slice (some ⟨nw, 0, none⟩) 1 1) (hl : l.length ≤ 1099511627776) (hB : B ≤ w.heap.size)
    (h : ∀ v' w', OwnL w' B v' (l ++ [x]) → Below B w w' → RI w' B w.heap.size a l → (∀ g, g < w.heap.size → Value.ownBlock (.slice a n c) ≠ some g → w'.heap[g]? = w.heap[g]?) → OwnL w' B (.slice a n c) l → wpList Try.prog ops Q rest (a0.put o.dst v') w') : wpList Try.prog ops Q (o :: rest) a0 (w.alloc (.cells #[.int .i64 x] 3)) := by
  obtain ⟨v', w', hr, h1, h2, h3, h4, h5⟩ := run_app1kP o.type B a n c l hown x nw hnw hl hB
  exact Lib.wpList_append_run _ hgd s t 23 23 ho _ _ hs hx v' w' hr (h v' w' h1 h2 h3 h4 h5)


set_option maxRecDepth 100000 in
set_option maxHeartbeats 8000000 in
theorem s_someBansO {b K N B n c : Nat} {a : Option Addr} {m : List Int} {w : World} (hr : Rdr w b K) (hm : OwnL w B (.slice a n c) m) (hn : n = m.length) (hbB : b < B) (hBw : B ≤ w.heap.size) (hL : LP N m) (hN : N ≤ 18) (hK : K ≤ 400000) :
    Calls Try.prog 124 #[.pointer (some ⟨b, 0, none⟩), .slice a n c] w (fun e w' => ∃ (a1 : Option Addr) (c1 : Nat) (mm : List (List Int)), e = .returned (.slice a1 mm.length c1) ∧ OwnX w' w.heap.size (.slice a1 mm.length c1) mm ∧ SQ (N + 2) mm ∧ Rdr w' b (K + 1000) ∧ OwnL w' B (.slice a n c) m ∧ UpB b B w w' ∧ ∀ g, g < w.heap.size → g ≠ b → Value.ownBlock (.slice a n c) ≠ some g → w'.heap[g]? = w.heap[g]?) := by
  subst hn
  have hlt := hr.lt
  have hl1 := hL.1
  have HL := Lib.hid hL; clear hL
  obtain ⟨a0, c0, e0, hoi⟩ := hm.slice
  cases e0
  have hmr := hoi.ri
  clear hoi
  go_enter Try.func124, Try.ntmps124
  go_wp2_with fail
  refine (s_aBans hr hmr (Nat.le_refl _) hbB HL.out (by omega) (by omega)).mono ?_
  rintro e w1 ⟨a1, c1, l, rfl, ho1, hl, hr1, hU1⟩
  have hll := hl.1
  have HLl := Lib.hid hl
  have hs1 := hU1.size
  have hm1 := hm.same fun g h1 h2 => hU1.block g h2 h2 (by omega)
  have hmW1 := hmr.upB hU1 (Nat.le_refl _) (Nat.le_refl _) hbB
  have HOWN : Hid (∀ g, Value.ownBlock (.slice a m.length c) = some g → g < w.heap.size) := fun g hg => (World.ownsRow.lt hm g hg).2
  have hU1B := hU1.less hBw
  clear hr hmr hm hl
  go_wp2_with fail
  refine (s_pick hr1 (by omega) (by omega) (by omega)).mono ?_
  rintro e w2 ⟨v, rfl, hv, hr2, hu2⟩
  have hv0 := hv.1
  have ho2 := ho1.upd hu2 (by omega)
  have hm2 := hm1.upd hu2 hbB
  have hU2 := hU1B.upd hu2
  have hU2w := hU1.upd hu2
  have hs2 := hU2.size
  have HUPD : Hid (SQ (N + 2) l) := ⟨by have := HLl.out.1; omega, fun r h => (HLl.out.2 r h).mono (by omega)⟩
  have hmW := hmW1.upd hu2 (by omega) (.inr (by omega))
  clear ho1 hr1 hU1 hu2 hv hm1 hU1B hmW1
  by_cases e0 : v = 0
  · subst e0
    have hbnd : m.length ≤ 1099511627776 := by omega
    go_wp2_with (at_builtin; refine run_app1kO rfl (.tmp 15) (.tmp 16) rfl B a m.length c m rfl hm2 2 w2.heap.size rfl rfl hbnd (by omega) ?_; intro v3 w3 hown3 hb3 hmr3 hkp3 hm3; obtain ⟨m2, EM, hown3⟩ := named hown3; obtain ⟨a3, c3, hv3, hoi3⟩ := hown3.slice; subst hv3)
    have hz3 := hb3.size
    have hr3 := hr2.below hb3 hbB
    have ho3 := ho2.same hz3 fun g h1 h2 => hkp3 g h2 fun e => by have := HOWN.out g e; omega
    have HL3 : Hid (LP (N + 1) m2) := by show LP _ _; rw [EM.out]; exact HL.out.snoc (by omega)
    have hU3 := hU2.trans ⟨hb3.os, hb3.tape, hb3.output, hb3.size, fun j hj hjB _ => hb3.block j hjB⟩
    have hmW3 : RI w3 B w.heap.size a m := hmr3.own HOWN.out
    have KX3 : Hid (∀ g, g < w.heap.size → g ≠ b → Value.ownBlock (.slice a m.length c) ≠ some g → w3.heap[g]? = w.heap[g]?) := fun g h1 h2 h3 => (hkp3 g (by omega) h3).trans (hU2w.block g h1 h1 h2)
    have hri3 := hoi3.ri
    clear ho2 hr2 hb3 hkp3 hoi3 hown3 hm2 hmr3 hU2 hU2w
    go_wp2_with fail
    refine (s_somePattern hr3 hri3 (Nat.le_refl _) hbB HL3.out (by omega)).mono ?_
    rintro e w4 ⟨a4, c4, r, rfl, ho4, hLr, hr4, hU4⟩
    have hs4 := hU4.size
    have hX4 := ho3.upB hU4 (by omega)
    have KX4 : Hid (∀ g, g < w.heap.size → g ≠ b → Value.ownBlock (.slice a m.length c) ≠ some g → w4.heap[g]? = w.heap[g]?) := fun g h1 h2 h3 => (hU4.block g (by omega) (by omega) h2).trans (KX3.out g h1 h2 h3)
    have hm4 := hm3.upBs hU4 hbB
    have hLrn := hLr.1
    have HLr := Lib.hid hLr
    have HOF : Hid (∀ g, (Value.slice a1 l.length c1).ownBlock = some g → g < w3.heap.size) := fun g hg => (ho3.lt g hg).2
    obtain ⟨a5, c5, e5, hoi⟩ := ho4.slice
    cases e5
    have hri := hoi.ri
    have hcp := hoi.cap
    have hU4B := hU3.trans (hU4.less (show B ≤ w3.heap.size by omega))
    have hmW4 := hmW3.upB hU4 (by omega) (by omega) hbB
    have HSP : Hid (SQ (N + 2) (l ++ [r])) := by
      refine ⟨?_, fun q hq => ?_⟩
      · simp; omega
      · rcases List.mem_append.1 hq with hq | hq
        · exact (HLl.out.2 q hq).mono (by omega)
        · simp at hq; subst hq; exact HLr.out
    clear ho3 ho4 hoi hLr hU4 hU3 hri3 hmW3 hm3
    go_wp2_with (first
      | (at_builtin; refine wpList_appX rfl (.tmp 13) (.tmp 19) rfl w.heap.size w3.heap.size w4.heap.size _ l rfl hX4 (by omega) r a4 r.length c4 rfl hri hcp (by omega) (Nat.le_refl _) HOF.out w4.heap.size rfl rfl (by omega) ?_; intro v8 w8 hown8 hb8 _; obtain ⟨l2, EL2⟩ : ∃ l2, l ++ [r] = l2 := ⟨_, rfl⟩; rw [EL2] at hown8; obtain ⟨a8, c8, hv8, _⟩ := hown8.riic; subst hv8)
      | go_in)
    have HSP2 : Hid (SQ (N + 2) l2) := by show SQ _ _; rw [← EL2]; exact HSP.out
    have hr8 := hr4.below hb8 hlt
    have hU8 := hU4B.below hb8 (by omega)
    have hmW8 := ownL_keep hm4 fun g hg => hb8.block g (HOWN.out g hg)
    have KX8 : Hid (∀ g, g < w.heap.size → g ≠ b → Value.ownBlock (.slice a m.length c) ≠ some g → w8.heap[g]? = w.heap[g]?) := fun g h1 h2 h3 => (hb8.block g h1).trans (KX4.out g h1 h2 h3)
    have hz8 := hb8.size
    clear hX4 hri hr4 hU4B hb8 hmW4
    go_ret
    exact ⟨a8, c8, l2, rfl, hown8, HSP2.out, hr8.mono (by omega), hmW8, hU8, KX8.out⟩
  by_cases e1 : v = 1
  · subst e1
    have hlN := hl1
    have hz2 := hs2
    have HOL : Hid (∀ g, (Value.slice a1 l.length c1).ownBlock = some g → g < w2.heap.size) := fun g hg => (ho2.lt g hg).2
    go_wp2_with fail
    refine (s_aPattern hr2 hmW (by omega) hbB HL.out (by omega)).mono ?_
    rintro e y1 ⟨b1, d1, r1, rfl, op1, lp1, hq1, Uq1⟩
    have zq1 := Uq1.size
    have hX1 := ho2.upB (Uq1.less (by omega)) (by omega)
    have hO1 := hm2.upBs Uq1 hbB
    have hmW1 := hmW.upB Uq1 (by omega) (by omega) hbB
    obtain ⟨_, _, e1, oi1⟩ := op1.slice
    cases e1
    have ri1 := oi1.ri
    have cp1 := oi1.cap
    have LP1 := Lib.hid (lp1.mono (show N ≤ N + 2 by omega))
    have ln1 := lp1.1
    have UU1 := hU2.trans (Uq1.less (show B ≤ _ by omega))
    have UW1 := hU2w.trans (Uq1.less (show w.heap.size ≤ _ by omega))
    clear op1 oi1 lp1
    go_wp2_with fail
    refine (s_aPattern hq1 hmW1 (by omega) hbB HL.out (by omega)).mono ?_
    rintro e y2 ⟨b2, d2, r2, rfl, op2, lp2, hq2, Uq2⟩
    have zq2 := Uq2.size
    have hX2 := hX1.upB (Uq2.less (by omega)) (by omega)
    have hO2 := hO1.upBs Uq2 hbB
    have hmW2 := hmW1.upB Uq2 (by omega) (by omega) hbB
    obtain ⟨_, _, e2, oi2⟩ := op2.slice
    cases e2
    have ri2 := oi2.ri
    have cp2 := oi2.cap
    have LP2 := Lib.hid (lp2.mono (show N ≤ N + 2 by omega))
    have ln2 := lp2.1
    have UU2 := UU1.trans (Uq2.less (show B ≤ _ by omega))
    have UW2 := UW1.trans (Uq2.less (show w.heap.size ≤ _ by omega))
    clear op2 oi2 lp2
    have ri1 := ri1.upB Uq2 (by omega) (by omega) (by omega)
    go_wp2_with fail
    refine (s_aPattern hq2 hmW2 (by omega) hbB HL.out (by omega)).mono ?_
    rintro e y3 ⟨b3, d3, r3, rfl, op3, lp3, hq3, Uq3⟩
    have zq3 := Uq3.size
    have hX3 := hX2.upB (Uq3.less (by omega)) (by omega)
    have hO3 := hO2.upBs Uq3 hbB
    have hmW3 := hmW2.upB Uq3 (by omega) (by omega) hbB
    obtain ⟨_, _, e3, oi3⟩ := op3.slice
    cases e3
    have ri3 := oi3.ri
    have cp3 := oi3.cap
    have LP3 := Lib.hid (lp3.mono (show N ≤ N + 2 by omega))
    have ln3 := lp3.1
    have UU3 := UU2.trans (Uq3.less (show B ≤ _ by omega))
    have UW3 := UW2.trans (Uq3.less (show w.heap.size ≤ _ by omega))
    clear op3 oi3 lp3
    have ri1 := ri1.upB Uq3 (by omega) (by omega) (by omega)
    have ri2 := ri2.upB Uq3 (by omega) (by omega) (by omega)
    go_wp2_with fail
    refine (s_aPattern hq3 hmW3 (by omega) hbB HL.out (by omega)).mono ?_
    rintro e y4 ⟨b4, d4, r4, rfl, op4, lp4, hq4, Uq4⟩
    have zq4 := Uq4.size
    have hX4 := hX3.upB (Uq4.less (by omega)) (by omega)
    have hO4 := hO3.upBs Uq4 hbB
    have hmW4 := hmW3.upB Uq4 (by omega) (by omega) hbB
    obtain ⟨_, _, e4, oi4⟩ := op4.slice
    cases e4
    have ri4 := oi4.ri
    have cp4 := oi4.cap
    have LP4 := Lib.hid (lp4.mono (show N ≤ N + 2 by omega))
    have ln4 := lp4.1
    have UU4 := UU3.trans (Uq4.less (show B ≤ _ by omega))
    have UW4 := UW3.trans (Uq4.less (show w.heap.size ≤ _ by omega))
    clear op4 oi4 lp4
    have ri1 := ri1.upB Uq4 (by omega) (by omega) (by omega)
    have ri2 := ri2.upB Uq4 (by omega) (by omega) (by omega)
    have ri3 := ri3.upB Uq4 (by omega) (by omega) (by omega)
    go_wp2_with fail
    refine (s_aPattern hq4 hmW4 (by omega) hbB HL.out (by omega)).mono ?_
    rintro e y5 ⟨b5, d5, r5, rfl, op5, lp5, hq5, Uq5⟩
    have zq5 := Uq5.size
    have hX5 := hX4.upB (Uq5.less (by omega)) (by omega)
    have hO5 := hO4.upBs Uq5 hbB
    have hmW5 := hmW4.upB Uq5 (by omega) (by omega) hbB
    obtain ⟨_, _, e5, oi5⟩ := op5.slice
    cases e5
    have ri5 := oi5.ri
    have cp5 := oi5.cap
    have LP5 := Lib.hid (lp5.mono (show N ≤ N + 2 by omega))
    have ln5 := lp5.1
    have UU5 := UU4.trans (Uq5.less (show B ≤ _ by omega))
    have UW5 := UW4.trans (Uq5.less (show w.heap.size ≤ _ by omega))
    clear op5 oi5 lp5
    have ri1 := ri1.upB Uq5 (by omega) (by omega) (by omega)
    have ri2 := ri2.upB Uq5 (by omega) (by omega) (by omega)
    have ri3 := ri3.upB Uq5 (by omega) (by omega) (by omega)
    have ri4 := ri4.upB Uq5 (by omega) (by omega) (by omega)
    go_wp2_with fail
    refine (s_aPattern hq5 hmW5 (by omega) hbB HL.out (by omega)).mono ?_
    rintro e y6 ⟨b6, d6, r6, rfl, op6, lp6, hq6, Uq6⟩
    have zq6 := Uq6.size
    have hX6 := hX5.upB (Uq6.less (by omega)) (by omega)
    have hO6 := hO5.upBs Uq6 hbB
    have hmW6 := hmW5.upB Uq6 (by omega) (by omega) hbB
    obtain ⟨_, _, e6, oi6⟩ := op6.slice
    cases e6
    have ri6 := oi6.ri
    have cp6 := oi6.cap
    have LP6 := Lib.hid (lp6.mono (show N ≤ N + 2 by omega))
    have ln6 := lp6.1
    have UU6 := UU5.trans (Uq6.less (show B ≤ _ by omega))
    have UW6 := UW5.trans (Uq6.less (show w.heap.size ≤ _ by omega))
    clear op6 oi6 lp6
    have ri1 := ri1.upB Uq6 (by omega) (by omega) (by omega)
    have ri2 := ri2.upB Uq6 (by omega) (by omega) (by omega)
    have ri3 := ri3.upB Uq6 (by omega) (by omega) (by omega)
    have ri4 := ri4.upB Uq6 (by omega) (by omega) (by omega)
    have ri5 := ri5.upB Uq6 (by omega) (by omega) (by omega)
    have hXw : OwnX y6 w.heap.size (.slice a1 l.length c1) l := hX6
    have hcell : Hid (∀ (k : Nat) (q : List Int), ([r1, r2, r3, r4, r5, r6] : List (List Int))[k]? = some q → ∃ a' c', (#[.slice b1 r1.length d1, .slice b2 r2.length d2, .slice b3 r3.length d3, .slice b4 r4.length d4, .slice b5 r5.length d5, .slice b6 r6.length d6] : Array Value)[k]? = some (Value.slice a' q.length c') ∧ q.length ≤ c' ∧ ∃ lo hi, RI y6 lo hi a' q ∧ w.heap.size ≤ lo ∧ hi ≤ y6.heap.size ∧ ∀ g, (Value.slice a1 l.length c1).ownBlock = some g → g < lo) := by
      intro k q hq
      have hk := lt_of_at hq
      simp at hk
      obtain rfl | rfl | rfl | rfl | rfl | rfl : k = 0 ∨ k = 1 ∨ k = 2 ∨ k = 3 ∨ k = 4 ∨ k = 5 := by omega
      · obtain rfl : r1 = q := by simpa using hq
        exact ⟨_, _, rfl, cp1, _, _, ri1, by omega, by omega, fun g hg => by have := HOL.out g hg; omega⟩
      · obtain rfl : r2 = q := by simpa using hq
        exact ⟨_, _, rfl, cp2, _, _, ri2, by omega, by omega, fun g hg => by have := HOL.out g hg; omega⟩
      · obtain rfl : r3 = q := by simpa using hq
        exact ⟨_, _, rfl, cp3, _, _, ri3, by omega, by omega, fun g hg => by have := HOL.out g hg; omega⟩
      · obtain rfl : r4 = q := by simpa using hq
        exact ⟨_, _, rfl, cp4, _, _, ri4, by omega, by omega, fun g hg => by have := HOL.out g hg; omega⟩
      · obtain rfl : r5 = q := by simpa using hq
        exact ⟨_, _, rfl, cp5, _, _, ri5, by omega, by omega, fun g hg => by have := HOL.out g hg; omega⟩
      · obtain rfl : r6 = q := by simpa using hq
        exact ⟨_, _, rfl, cp6, _, _, ri6, by omega, by omega, fun g hg => by have := HOL.out g hg; omega⟩
    obtain ⟨L6, hL6⟩ : ∃ L6 : List (List Int), [r1, r2, r3, r4, r5, r6] = L6 := ⟨_, rfl⟩
    have h66 : 6 = L6.length := by rw [← hL6]; rfl
    rw [hL6] at hcell
    have HL6 := Lib.hid hL6
    clear hL6
    have h66b : L6.length ≤ 1099511627776 := by omega
    have H66 := Lib.hid h66
    clear h66
    go_wp2_with (first
      | (at_builtin; refine wpList_appXN rfl (.tmp 23) (.tmp 42) rfl w.heap.size _ l L6 rfl hXw (by omega) _ 6 H66.out rfl hcell.out y6.heap.size rfl rfl (by omega) h66b ?_; intro v8 w8 hown8 hb8; obtain ⟨L8, hL8⟩ : ∃ L8, l ++ L6 = L8 := ⟨_, rfl⟩; rw [hL8] at hown8; obtain ⟨a8, c8, hv8, _⟩ := hown8.riic; subst hv8)
      | go_in)
    have HSQ : Hid (SQ (N + 2) L8) := by
      show SQ _ _
      rw [← hL8, ← HL6.out]
      refine ⟨by simp; omega, fun q hq => ?_⟩
      rcases List.mem_append.1 hq with hq | hq
      · exact (HLl.out.2 q hq).mono (by omega)
      · simp at hq
        rcases hq with rfl | rfl | rfl | rfl | rfl | rfl
        · exact LP1.out
        · exact LP2.out
        · exact LP3.out
        · exact LP4.out
        · exact LP5.out
        · exact LP6.out
    have hz8 := hb8.size
    have hr8 := hq6.below hb8 (by omega)
    have hU8 := UU6.below hb8 (by omega)
    have hm8 := ownL_keep hO6 fun g hg => hb8.block g (HOWN.out g hg)
    clear hL8
    go_ret
    exact ⟨a8, c8, L8, rfl, hown8, HSQ.out, hr8.mono (by omega), hm8, hU8, fun g h1 h2 _ => (hb8.block g h1).trans (UW6.block g h1 h1 h2)⟩
  have hv2 : 2 ≤ v := by omega
  go_wp2
  go_ret
  exact ⟨a1, c1, l, rfl, ho2, HUPD.out, hr2.mono (by omega), hm2, hU2, fun g h1 h2 _ => hU2w.block g h1 h1 h2⟩





set_option maxRecDepth 100000 in
set_option maxHeartbeats 8000000 in
theorem s_someSuiteO {b K N B n c : Nat} {a : Option Addr} {m : List Int} {w : World} (hr : Rdr w b K) (hm : OwnL w B (.slice a n c) m) (hn : n = m.length) (hbB : b < B) (hBw : B ≤ w.heap.size) (hL : LP N m) (hN : N ≤ 18) (hK : K ≤ 400000) :
    Calls Try.prog 148 #[.pointer (some ⟨b, 0, none⟩), .slice a n c] w (fun e w' => ∃ (a1 : Option Addr) (c1 : Nat) (mm : List (List Int)), e = .returned (.slice a1 mm.length c1) ∧ OwnX w' w.heap.size (.slice a1 mm.length c1) mm ∧ SQ (N + 2) mm ∧ Rdr w' b (K + 1000) ∧ RI w' B w'.heap.size a m ∧ UpB b B w w' ∧ ∀ g, g < w.heap.size → g ≠ b → Value.ownBlock (.slice a n c) ≠ some g → w'.heap[g]? = w.heap[g]?) := by
  subst hn
  have hlt := hr.lt
  have hl1 := hL.1
  have HL := Lib.hid hL; clear hL
  obtain ⟨a0, c0, e0, hoi⟩ := hm.slice
  cases e0
  have hmr := hoi.ri
  clear hoi
  go_enter Try.func148, Try.ntmps148
  go_wp2_with fail
  refine (s_aSuite hr hmr (Nat.le_refl _) hbB HL.out (by omega) (by omega)).mono ?_
  rintro e w1 ⟨a1, c1, l, rfl, ho1, hl, hr1, hU1⟩
  have hll := hl.1
  have HLl := Lib.hid hl
  have hs1 := hU1.size
  have hm1 := hm.same fun g h1 h2 => hU1.block g h2 h2 (by omega)
  have hmW1 := hmr.upB hU1 (Nat.le_refl _) (Nat.le_refl _) hbB
  have HOWN : Hid (∀ g, Value.ownBlock (.slice a m.length c) = some g → g < w.heap.size) := fun g hg => (World.ownsRow.lt hm g hg).2
  have hU1B := hU1.less hBw
  clear hr hmr hm hl
  go_wp2_with fail
  refine (s_pick hr1 (by omega) (by omega) (by omega)).mono ?_
  rintro e w2 ⟨v, rfl, hv, hr2, hu2⟩
  have hv0 := hv.1
  have ho2 := ho1.upd hu2 (by omega)
  have hm2 := hm1.upd hu2 hbB
  have hU2 := hU1B.upd hu2
  have hU2w := hU1.upd hu2
  have hs2 := hU2.size
  have HUPD : Hid (SQ (N + 2) l) := ⟨by have := HLl.out.1; omega, fun r h => (HLl.out.2 r h).mono (by omega)⟩
  have hmW := hmW1.upd hu2 (by omega) (.inr (by omega))
  clear ho1 hr1 hU1 hu2 hv hm1 hU1B hmW1
  by_cases e0 : v = 0
  · subst e0
    have hbnd : m.length ≤ 1099511627776 := by omega
    go_wp2_with (at_builtin; refine run_app1kL rfl (.tmp 15) (.tmp 16) rfl B a m.length c m rfl hm2 2 w2.heap.size rfl rfl hbnd (by omega) ?_; intro v3 w3 hown3 hb3 hmr3 hkp3; obtain ⟨m2, EM, hown3⟩ := named hown3; obtain ⟨a3, c3, hv3, hoi3⟩ := hown3.slice; subst hv3)
    have hz3 := hb3.size
    have hr3 := hr2.below hb3 hbB
    have ho3 := ho2.same hz3 fun g h1 h2 => hkp3 g h2 fun e => by have := HOWN.out g e; omega
    have HL3 : Hid (LP (N + 1) m2) := by show LP _ _; rw [EM.out]; exact HL.out.snoc (by omega)
    have hU3 := hU2.trans ⟨hb3.os, hb3.tape, hb3.output, hb3.size, fun j hj hjB _ => hb3.block j hjB⟩
    have hmW3 : RI w3 B w.heap.size a m := hmr3.own HOWN.out
    have KX3 : Hid (∀ g, g < w.heap.size → g ≠ b → Value.ownBlock (.slice a m.length c) ≠ some g → w3.heap[g]? = w.heap[g]?) := fun g h1 h2 h3 => (hkp3 g (by omega) h3).trans (hU2w.block g h1 h1 h2)
    have hri3 := hoi3.ri
    clear ho2 hr2 hb3 hkp3 hoi3 hown3 hm2 hmr3 hU2 hU2w
    go_wp2_with fail
    refine (s_someTest hr3 hri3 (Nat.le_refl _) hbB HL3.out (by omega)).mono ?_
    rintro e w4 ⟨a4, c4, r, rfl, ho4, hLr, hr4, hU4⟩
    have hs4 := hU4.size
    have hX4 := ho3.upB hU4 (by omega)
    have KX4 : Hid (∀ g, g < w.heap.size → g ≠ b → Value.ownBlock (.slice a m.length c) ≠ some g → w4.heap[g]? = w.heap[g]?) := fun g h1 h2 h3 => (hU4.block g (by omega) (by omega) h2).trans (KX3.out g h1 h2 h3)
    have hLrn := hLr.1
    have HLr := Lib.hid hLr
    have HOF : Hid (∀ g, (Value.slice a1 l.length c1).ownBlock = some g → g < w3.heap.size) := fun g hg => (ho3.lt g hg).2
    obtain ⟨a5, c5, e5, hoi⟩ := ho4.slice
    cases e5
    have hri := hoi.ri
    have hcp := hoi.cap
    have hU4B := hU3.trans (hU4.less (show B ≤ w3.heap.size by omega))
    have hmW4 := hmW3.upB hU4 (by omega) (by omega) hbB
    have HSP : Hid (SQ (N + 2) (l ++ [r])) := by
      refine ⟨?_, fun q hq => ?_⟩
      · simp; omega
      · rcases List.mem_append.1 hq with hq | hq
        · exact (HLl.out.2 q hq).mono (by omega)
        · simp at hq; subst hq; exact HLr.out
    clear ho3 ho4 hoi hLr hU4 hU3 hri3 hmW3
    go_wp2_with (first
      | (at_builtin; refine wpList_appX rfl (.tmp 13) (.tmp 19) rfl w.heap.size w3.heap.size w4.heap.size _ l rfl hX4 (by omega) r a4 r.length c4 rfl hri hcp (by omega) (Nat.le_refl _) HOF.out w4.heap.size rfl rfl (by omega) ?_; intro v8 w8 hown8 hb8 _; obtain ⟨l2, EL2⟩ : ∃ l2, l ++ [r] = l2 := ⟨_, rfl⟩; rw [EL2] at hown8; obtain ⟨a8, c8, hv8, _⟩ := hown8.riic; subst hv8)
      | go_in)
    have HSP2 : Hid (SQ (N + 2) l2) := by show SQ _ _; rw [← EL2]; exact HSP.out
    have hr8 := hr4.below hb8 hlt
    have hU8 := hU4B.below hb8 (by omega)
    have hmW8 := hmW4.below hb8 (Nat.le_refl _)
    have KX8 : Hid (∀ g, g < w.heap.size → g ≠ b → Value.ownBlock (.slice a m.length c) ≠ some g → w8.heap[g]? = w.heap[g]?) := fun g h1 h2 h3 => (hb8.block g h1).trans (KX4.out g h1 h2 h3)
    have hz8 := hb8.size
    clear hX4 hri hr4 hU4B hb8 hmW4
    go_ret
    exact ⟨a8, c8, l2, rfl, hown8, HSP2.out, hr8.mono (by omega), hmW8.wide (Nat.le_refl _) (by omega), hU8, KX8.out⟩
  by_cases e1 : v = 1
  · subst e1
    go_wp2
    go_loopw [5] (fun v wr => ∃ (a : Option Addr) (c : Nat) (l : List (List Int)), v = .slice a l.length c ∧ OwnX wr w.heap.size (.slice a l.length c) l ∧ l.length ≤ 24 ∧ Hid (∀ r ∈ l, LP (N + 2) r) ∧ Rdr wr b (K + 401 + l.length * 22) ∧ UpB b w.heap.size w2 wr) (fun v _ => 21 - lenV v)
    case atStart => exact ⟨a1, c1, l, rfl, ho2, by omega, HUPD.out.2, hr2.mono (by omega), UpB.refl _ _ _⟩
    case round =>
      clear ho2 hr2
      obtain ⟨al, cl, l, rfl, ho, hl24, hLl, hr, hU⟩ := hrel
      have hszr := hU.size
      have hmq := hmW.upB hU (by omega) (Nat.le_refl _) hbB
      by_cases hlt2 : (l.length : Int) < 21
      · go_wp2_with fail
        refine (s_aTest hr hmq (by omega) hbB HL.out (by omega)).mono ?_
        rintro e w6 ⟨a6, c6, r, rfl, ho6, hl6, hr6, hU6⟩
        have HL6 := Lib.hid (hl6.2.mono (show N ≤ N + 2 by omega))
        have hl6n := hl6.2.1
        have hs6 := hU6.size
        have hX6 := ho.upB hU6 (by omega)
        have HOF : Hid (∀ g, (Value.slice al l.length cl).ownBlock = some g → g < wr.heap.size) := fun g hg => (ho.lt g hg).2
        obtain ⟨a7, c7, e7, hoi⟩ := ho6.slice
        cases e7
        have hri := hoi.ri
        have hcp := hoi.cap
        have hU6l := hU6.less (show w.heap.size ≤ wr.heap.size by omega)
        clear ho6 hl6 ho hU6 hoi
        go_wp2_with (first
          | (at_builtin; refine wpList_appX rfl (.tmp 26) (.tmp 30) rfl w.heap.size wr.heap.size w6.heap.size _ l rfl hX6 (by omega) r a6 r.length c6 rfl hri hcp (by omega) (Nat.le_refl _) HOF.out w6.heap.size rfl rfl (by omega) ?_; intro v8 w8 hown8 hb8 _; obtain ⟨a8, c8, hv8, _⟩ := hown8.riic; subst hv8)
          | go_in)
        have hr8 := hr6.below hb8 (by omega)
        have hU8 := (hU.trans hU6l).below hb8 (Nat.le_refl _)
        have HL8 := Lib.hid (SP.snoc hLl.out HL6.out)
        clear hX6 hri hr6 hU6l hU hb8 hmq
        go_roundw
        case rel => exact ⟨a8, c8, l ++ [r], by simp, hown8, by simp; omega, HL8, hr8.mono (by simp; omega), hU8⟩
        case measure => simp [lenV]; omega
      · go_wp2
        go_ret
        exact ⟨al, cl, l, rfl, ho, ⟨hl24, hLl.out⟩, hr.mono (by omega), hmq.wide (Nat.le_refl _) (by omega), hU2.trans (hU.less hBw), fun g h1 h2 _ => (hU.block g (by omega) h1 h2).trans (hU2w.block g h1 h1 h2)⟩
  have hv2 : 2 ≤ v := by omega
  go_wp2
  go_ret
  exact ⟨a1, c1, l, rfl, ho2, HUPD.out, hr2.mono (by omega), hmW.wide (Nat.le_refl _) (by omega), hU2, fun g h1 h2 _ => hU2w.block g h1 h1 h2⟩


theorem grA_sq {N : Nat} {all ps : List (List Int)} (hne : all = [] → ps = []) (h : ∀ x ∈ all, LP N x) : SQ N (grS all 21 [] ps) := by
  by_cases h0 : all = []
  · rw [hne h0, grS_done]; exact ⟨by simp, by simp⟩
  · refine ⟨?_, grS_rows (P := fun x => LP N x) h0 h _ _ _ (by simp)⟩
    have := (grS_len all 21 [] ps).2
    simp at this
    omega


theorem results_tmp4b {fn : Func} {t u v x : Tmp} (h : fn.results = #[.tmp t, .tmp u, .tmp v, .tmp x]) (tmps : Array Value) (P : Program) (w : World) :
    (results fn tmps).run P w = .ok (.tuple #[tmps.getD t undef, tmps.getD u undef, tmps.getD v undef, tmps.getD x undef]) w := by
  simp [results, h]

/-- what the law on allowed covering draws -/
def DrI (w : World) (e : Ending) (w' : World) : Prop := ∃ (a1 : Option Addr) (c1 : Nat) (m : List Int) (a2 : Option Addr) (c2 : Nat) (s : List (List Int)) (a3 : Option Addr) (c3 : Nat) (u : List (List Int)) (t : Int), e = .returned (.tuple #[.slice a1 m.length c1, .slice a2 s.length c2, .slice a3 u.length c3, .int .i64 t]) ∧ (Got w w' 10 a1 c1 m ∧ GotS w w' 12 a2 c2 s ∧ GotS w w' 12 a3 c3 u ∧ -4 ≤ t ∧ t ≤ 6) ∧ Below w.heap.size w w'

set_option maxRecDepth 100000 in
set_option maxHeartbeats 8000000 in
theorem s_DrawIsAllowedCovering {n : Nat} {a : Option Addr} {c : Nat} {w : World} (hm : RB w w.heap.size a n) (hc : n ≤ c) (hl : n ≤ 1048576) :
    Calls Try.prog 41 #[.slice a n c] w (DrI w) := by
  go_enter Try.func41, Try.ntmps41
  go_wp2_with fail
  refine (s_newReader hm hc hl).mono ?_
  rintro e w1 ⟨rfl, hr1, hb1⟩
  have hlt := hr1.lt
  go_wp2_with fail
  refine (s_goodModel hr1 (by omega)).mono ?_
  rintro e w2 ⟨a2, c2, m2, rfl, ho2, hL2, hr2, hU2⟩
  go_wp2_with fail
  refine (s_bentModel hr2 (by omega) ho2 rfl hL2 (by omega) hlt hU2.size).mono ?_
  rintro e w3 ⟨a3, c3, m3, rfl, ho3, hL3, hr3, hU3⟩
  have hU := hU2.trans hU3
  have hcap := ho3.cap.2
  have hs3 := hU.size
  have hl10 := hL3.1
  have HOWN : Hid (∀ g, Value.ownBlock (.slice a3 m3.length c3) = some g → g < w3.heap.size) := fun g hg => (World.ownsRow.lt ho3 g hg).2
  clear ho2 hL2 hr2 hU2 hU3 hr1
  go_wp2_with fail
  refine (s_someBansO hr3 ho3 rfl hlt hs3 hL3 (by omega) (by omega)).mono ?_
  rintro e w4 ⟨a4, c4, s, rfl, ho4, hS4, hr4, hm4, hU4, _⟩
  have hs4 := hU4.size
  have hsl := hS4.1
  have HSG : Hid (∀ r ∈ s, r.length ≤ 9223372036854775807) := fun r h => by have := (hS4.2 r h).1; omega
  have HS4 := Lib.hid hS4
  have HL3 := Lib.hid hL3
  obtain ⟨a5, c5, e5, hR⟩ := ho4.riic
  cases e5
  have hUU := hU.trans hU4
  clear ho3 hr3 hU hU4 ho4 hS4 hL3
  go_wp2_with fail
  refine (s_aStrength hr4 (by omega)).mono ?_
  rintro e w5 ⟨t, rfl, ht, hr5, hU5⟩
  have hs5 := hU5.size
  have hm5 := hm4.upBs hU5 hlt
  have hR5 : RIIc w5 w3.heap.size w4.heap.size a4 c4 s := ⟨hR.rii.same fun k h1 h2 => hU5.block k h2 h2 (by omega), hR.cap⟩
  have hU5 := hUU.trans (hU5.less (show w1.heap.size ≤ w4.heap.size by omega))
  obtain ⟨a3', c3', e3, hoi5⟩ := hm5.slice
  cases e3
  have hri5 := hoi5.ri
  have ht0 := ht.1
  have ht1 := ht.2
  clear hm4 hR hUU hr4 hoi5 ht
  go_wp2_with fail
  refine (s_validModel hri5 (by omega)).mono ?_
  rintro e w6 ⟨rfl, d6⟩
  have d6 : Dr w5 w6 := d6
  have b6 := Dr.below d6 w5.heap.size
  have hs6 := Dr.le d6
  have hm6 := hm5.below b6
  have hri6 := hri5.below b6 (by omega)
  have hR6 := hR5.below b6 (by omega)
  have hr6 := hr5.below b6 hr5.lt
  have hU6 := hU5.below b6 (by omega)
  clear hm5 hri5 hR5 hr5 hU5 b6 d6
  cases hOK : okM m3
  · skip
    go_wp2_with fail
    refine (s_someSuiteO hr6 hm6 rfl hlt (by omega) HL3.out (by omega) (by omega)).mono ?_
    rintro e w20 ⟨a20, c20, u, rfl, ho20, hS20, hr20, hm20, hU20, hk20⟩
    have hs20 := hU20.size
    obtain ⟨_, _, e20, hRu⟩ := ho20.riic
    cases e20
    have hR20 : RIIc w20 w3.heap.size w4.heap.size a4 c4 s := ⟨hR6.rii.same fun k h1 h2 => hk20 k (by omega) (by omega) (fun e => by have := HOWN.out k e; omega), hR6.cap⟩
    have hUU20 := hU6.trans hU20
    have HS20 := Lib.hid hS20
    clear hr6 hm6 hR6 hU6 hU20 hk20 ho20 hri6 hS20
    go_wp2
    (try simp only [Exit.inBlock, Exit.then]); refine bodyPost_ret (results_tmp4b rfl _ _ _) rfl ?_
    exact ⟨_, _, m3, _, _, s, _, _, u, t, rfl, ⟨⟨hm20.wide (by omega) (by omega), HL3.out, hcap⟩, ⟨hR20.wide (by omega) (by omega), HS4.out⟩, ⟨hRu.wide (by omega) (by omega), HS20.out⟩, ht0, ht1⟩, hb1.trans (hUU20.toBelow (by omega) (by omega))⟩
  have HOK := Lib.hid hOK; clear hOK
  go_wp2_with fail
  refine (s_validBans hri6 hR6.rii HOK.out (by omega) HSG.out).mono ?_
  rintro e w7 ⟨rfl, d7⟩
  have d7 : Dr w6 w7 := d7
  have b7 := Dr.below d7 w6.heap.size
  have hs7 := Dr.le d7
  have hm7 := hm6.below b7
  have hri7 := hri6.below b7 (by omega)
  have hR7 := hR6.below b7 (by omega)
  have hr7 := hr6.below b7 hr6.lt
  have hU7 := hU6.below b7 (by omega)
  clear hm6 hri6 hR6 hr6 hU6 b7 d7
  cases hOB : okBn m3 s
  · skip
    go_wp2_with fail
    refine (s_someSuiteO hr7 hm7 rfl hlt (by omega) HL3.out (by omega) (by omega)).mono ?_
    rintro e w20 ⟨a20, c20, u, rfl, ho20, hS20, hr20, hm20, hU20, hk20⟩
    have hs20 := hU20.size
    obtain ⟨_, _, e20, hRu⟩ := ho20.riic
    cases e20
    have hR20 : RIIc w20 w3.heap.size w4.heap.size a4 c4 s := ⟨hR7.rii.same fun k h1 h2 => hk20 k (by omega) (by omega) (fun e => by have := HOWN.out k e; omega), hR7.cap⟩
    have hUU20 := hU7.trans hU20
    have HS20 := Lib.hid hS20
    clear hr7 hm7 hR7 hU7 hU20 hk20 ho20 hri7 hS20
    go_wp2
    (try simp only [Exit.inBlock, Exit.then]); refine bodyPost_ret (results_tmp4b rfl _ _ _) rfl ?_
    exact ⟨_, _, m3, _, _, s, _, _, u, t, rfl, ⟨⟨hm20.wide (by omega) (by omega), HL3.out, hcap⟩, ⟨hR20.wide (by omega) (by omega), HS4.out⟩, ⟨hRu.wide (by omega) (by omega), HS20.out⟩, ht0, ht1⟩, hb1.trans (hUU20.toBelow (by omega) (by omega))⟩
  have HOB := Lib.hid hOB; clear hOB
  go_wp2_with fail
  refine (s_inRange t 0 m3.length w7).mono ?_
  rintro e w8 ⟨rfl, d8⟩
  have d8 : Dr w7 w8 := d8
  have b8 := Dr.below d8 w7.heap.size
  have hs8 := Dr.le d8
  have hm8 := hm7.below b8
  have hri8 := hri7.below b8 (by omega)
  have hR8 := hR7.below b8 (by omega)
  have hr8 := hr7.below b8 hr7.lt
  have hU8 := hU7.below b8 (by omega)
  clear hm7 hri7 hR7 hr7 hU7 b8 d8
  cases hIN : inR t 0 m3.length
  · skip
    go_wp2_with fail
    refine (s_someSuiteO hr8 hm8 rfl hlt (by omega) HL3.out (by omega) (by omega)).mono ?_
    rintro e w20 ⟨a20, c20, u, rfl, ho20, hS20, hr20, hm20, hU20, hk20⟩
    have hs20 := hU20.size
    obtain ⟨_, _, e20, hRu⟩ := ho20.riic
    cases e20
    have hR20 : RIIc w20 w3.heap.size w4.heap.size a4 c4 s := ⟨hR8.rii.same fun k h1 h2 => hk20 k (by omega) (by omega) (fun e => by have := HOWN.out k e; omega), hR8.cap⟩
    have hUU20 := hU8.trans hU20
    have HS20 := Lib.hid hS20
    clear hr8 hm8 hR8 hU8 hU20 hk20 ho20 hri8 hS20
    go_wp2
    (try simp only [Exit.inBlock, Exit.then]); refine bodyPost_ret (results_tmp4b rfl _ _ _) rfl ?_
    exact ⟨_, _, m3, _, _, s, _, _, u, t, rfl, ⟨⟨hm20.wide (by omega) (by omega), HL3.out, hcap⟩, ⟨hR20.wide (by omega) (by omega), HS4.out⟩, ⟨hRu.wide (by omega) (by omega), HS20.out⟩, ht0, ht1⟩, hb1.trans (hUU20.toBelow (by omega) (by omega))⟩
  have hin0 := (inR_true.1 hIN).1
  have hin1 := (inR_true.1 hIN).2
  clear hIN
  go_wp2_with fail
  refine (s_pick hr8 (by omega) (by omega) (by omega)).mono ?_
  rintro e w9 ⟨v, rfl, hv, hr9, hu9⟩
  have hv0 := hv.1
  have hs9 := hu9.size
  have hm9 := hm8.upd hu9 hlt
  have hri9 := hri8.upd hu9 (by omega) (.inr (by omega))
  have hR9 := hR8.upd hu9 (by omega) (.inr (by omega))
  have hU9 := hU8.upd hu9
  clear hm8 hri8 hR8 hr8 hU8 hu9
  clear hv
  by_cases hv1 : 0 < v
  case neg =>
    go_wp2_with fail
    refine (s_someSuiteO hr9 hm9 rfl hlt (by omega) HL3.out (by omega) (by omega)).mono ?_
    rintro e w20 ⟨a20, c20, u, rfl, ho20, hS20, hr20, hm20, hU20, hk20⟩
    have hs20 := hU20.size
    obtain ⟨_, _, e20, hRu⟩ := ho20.riic
    cases e20
    have hR20 : RIIc w20 w3.heap.size w4.heap.size a4 c4 s := ⟨hR9.rii.same fun k h1 h2 => hk20 k (by omega) (by omega) (fun e => by have := HOWN.out k e; omega), hR9.cap⟩
    have hUU20 := hU9.trans hU20
    have HS20 := Lib.hid hS20
    clear hr9 hm9 hR9 hU9 hU20 hk20 ho20 hri9 hS20
    go_wp2
    (try simp only [Exit.inBlock, Exit.then]); refine bodyPost_ret (results_tmp4b rfl _ _ _) rfl ?_
    exact ⟨_, _, m3, _, _, s, _, _, u, t, rfl, ⟨⟨hm20.wide (by omega) (by omega), HL3.out, hcap⟩, ⟨hR20.wide (by omega) (by omega), HS4.out⟩, ⟨hRu.wide (by omega) (by omega), HS20.out⟩, ht0, ht1⟩, hb1.trans (hUU20.toBelow (by omega) (by omega))⟩
  have hmm5 := okM_len HOK.out
  have HROW : Hid (∀ r ∈ s, r.length = m3.length) := fun r hr => okW_len (okBn_all HOB.out hr)
  obtain ⟨W1, hW1⟩ : ∃ W, w9.alloc (.cells #[] 23) = W := ⟨_, rfl⟩
  have b10 : Below w9.heap.size w9 W1 := by rw [← hW1]; exact (Below.refl w9.heap.size w9).alloc (Nat.le_refl _) _
  obtain ⟨w10, hw10⟩ : ∃ x, W1 = x := ⟨_, rfl⟩
  rw [hw10] at hW1 b10
  clear hw10
  have hs10 := b10.size
  have hm10 := hm9.below b10
  have hri10 := hri9.below b10 (by omega)
  have hR10 := hR9.below b10 (by omega)
  have hr10 := hr9.below b10 hr9.lt
  have hU10 := hU9.below b10 (by omega)
  clear hm9 hri9 hR9 hr9 hU9 b10
  go_wp2_with fail
  refine (s_allowedTests HOK.out hri10 (by omega) hR10.rii (by omega) (by omega) HROW.out).mono ?_
  rintro e w11 ⟨aA, cA, rfl, A, b11⟩
  have hs11 := b11.size
  have hm11 := hm10.below b11
  have hri11 := hri10.below b11 (by omega)
  have hR11 := hR10.below b11 (by omega)
  have hr11 := hr10.below b11 hr10.lt
  have hU11 := hU10.below b11 (by omega)
  clear hm10 hri10 hR10 hr10 hU10 b11
  have A := A.rii
  have HAR := Lib.hid (@alL_row m3 s)
  have hAL := alL_len2 (b := s) HOK.out
  have HAT : Hid (∀ x ∈ alL m3 s, LP 12 x) := fun x hx => LP.okT HOK.out (by omega) ((ext_mem HOK.out).1 (List.mem_filter.1 hx).1)
  clear hW1
  go_wp2_with fail
  refine (s_possiblePatterns HOK.out hri11 (by omega) hR11.rii (by omega) (by omega) HROW.out hin0 hin1).mono ?_
  rintro e w12 ⟨aP, cP, rfl, Q, b12⟩
  have A := A.below b12 (by omega)
  have hs12 := b12.size
  have hm12 := hm11.below b12
  have hri12 := hri11.below b12 (by omega)
  have hR12 := hR11.below b12 (by omega)
  have hr12 := hr11.below b12 hr11.lt
  have hU12 := hU11.below b12 (by omega)
  clear hm11 hri11 hR11 hr11 hU11 b12
  have Q := Q.rii
  have hPL : (posP m3 s t).length ≤ 1024 := Nat.le_trans (List.length_filter_le _ _) (patS_len HOK.out t)
  have HPR : Hid (∀ p ∈ posP m3 s t, p.length ≤ m3.length) := fun p hp => Nat.le_of_eq (patS_row p (List.mem_filter.1 hp).1)
  have HNE : Hid (alL m3 s = [] → posP m3 s t = []) := fun h => posP_none h
  obtain ⟨L, hL⟩ : ∃ L, alL m3 s = L := ⟨_, rfl⟩
  obtain ⟨P, hP⟩ : ∃ P, posP m3 s t = P := ⟨_, rfl⟩
  rw [hL] at A HAR hAL HAT HNE
  rw [hP] at Q hPL HPR HNE
  rw [hL, hP]
  clear hL hP
  have HMM := Lib.hid (grA_sq HNE.out HAT.out)
  go_wp2_with fail
  refine (s_greedyA (n := m3.length) A (by omega) Q (by omega) HNE.out (by omega) (by omega) HAR.out HPR.out (by omega) (by omega)).mono ?_
  rintro e w13 ⟨v13, rfl, ho13, hn13, b13⟩
  have hs13 := b13.size
  have hm13 := hm12.below b13
  have hri13 := hri12.below b13 (by omega)
  have hR13 := hR12.below b13 (by omega)
  have hr13 := hr12.below b13 hr12.lt
  have hU13 := hU12.below b13 (by omega)
  clear hm12 hri12 hR12 hr12 hU12 b13
  obtain ⟨mm, hmm⟩ : ∃ x, grS L 21 [] P = x := ⟨_, rfl⟩
  rw [hmm] at ho13 HMM
  have hml := HMM.out.1
  obtain ⟨aG, cG, hvG, G13⟩ := (OwnX.ofLL ho13).riic
  subst hvG
  clear hmm ho13 hn13 A Q HAR HAT HNE HPR hAL hPL
  by_cases hnp : (0 : Int) < (mm.length : Int)
  case neg =>
    go_wp2
    (try simp only [Exit.inBlock, Exit.then]); refine bodyPost_ret (results_tmp4b rfl _ _ _) rfl ?_
    exact ⟨_, _, m3, _, _, s, _, _, mm, t, rfl, ⟨⟨hri13.wide (by omega) (by omega), HL3.out, hcap⟩, ⟨hR13.wide (by omega) (by omega), HS4.out⟩, ⟨G13.wide (by omega) (by omega), HMM.out⟩, ht0, ht1⟩, hb1.trans (hU13.toBelow (by omega) (by omega))⟩
  go_wp2_with fail
  refine (s_pick hr13 (by omega) (by omega) (by omega)).mono ?_
  rintro e w14 ⟨v2, rfl, hv, hr14, hu14⟩
  have G14 := G13.upd hu14 (by omega) (.inr (by omega))
  have hs14 := hu14.size
  have hm14 := hm13.upd hu14 hlt
  have hri14 := hri13.upd hu14 (by omega) (.inr (by omega))
  have hR14 := hR13.upd hu14 (by omega) (.inr (by omega))
  have hU14 := hU13.upd hu14
  clear hm13 hri13 hR13 hr13 hU13 hu14
  clear hv G13
  by_cases e0 : v2 = 0
  case neg =>
    have hvne : (v2 == 0) = false := by rw [beq_eq_false_iff_ne]; exact e0
    go_wp2
    (try simp only [Exit.inBlock, Exit.then]); refine bodyPost_ret (results_tmp4b rfl _ _ _) rfl ?_
    exact ⟨_, _, m3, _, _, s, _, _, mm, t, rfl, ⟨⟨hri14.wide (by omega) (by omega), HL3.out, hcap⟩, ⟨hR14.wide (by omega) (by omega), HS4.out⟩, ⟨G14.wide (by omega) (by omega), HMM.out⟩, ht0, ht1⟩, hb1.trans (hU14.toBelow (by omega) (by omega))⟩
  subst e0
  have hl1 : 0 < mm.length := by omega
  obtain ⟨b5, o5, a5, c5, r5, ha5, _, hb5, _⟩ := G14.rii.at hl1
  subst ha5
  have gcap := G14.cap
  obtain ⟨o', ho', hfrom⟩ := sliceFromII (b := b5) (o := o5) (n := mm.length) (c := cG) (k := 1) (z := 1) rfl (by omega) gcap
  have G15 : RIIc w14 w12.heap.size w13.heap.size (some ⟨b5, o', none⟩) (cG - 1) (mm.drop 1) := ⟨G14.rii.dropR ho', by simp; omega⟩
  have HDL : Hid (mm.length - 1 = (mm.drop 1).length) := by show _ = _; simp
  have HMD : Hid (SQ 12 (mm.drop 1)) := ⟨by simp; omega, fun r hr => HMM.out.2 r (List.mem_of_mem_drop hr)⟩
  clear ho' G14
  go_wp2
  (try simp only [Exit.inBlock, Exit.then]); refine bodyPost_ret (results_tmp4b rfl _ _ _) rfl ?_
  rw [HDL.out]
  exact ⟨_, _, m3, _, _, s, _, _, mm.drop 1, t, rfl, ⟨⟨hri14.wide (by omega) (by omega), HL3.out, hcap⟩, ⟨hR14.wide (by omega) (by omega), HS4.out⟩, ⟨G15.wide (by omega) (by omega), HMD.out⟩, ht0, ht1⟩, hb1.trans (hU14.toBelow (by omega) (by omega))⟩

/- Drawn arguments of ResultsOf: a model, a suite, bans. -/
open Go.RowKit

set_option maxRecDepth 100000 in
set_option maxHeartbeats 8000000 in
theorem s_someSuiteP {b K N B n c : Nat} {a : Option Addr} {m : List Int} {w : World} (hr : Rdr w b K) (hm : OwnL w B (.slice a n c) m) (hn : n = m.length) (hbB : b < B) (hBw : B ≤ w.heap.size) (hL : LP N m) (hN : N ≤ 18) (hK : K ≤ 400000) :
    Calls Try.prog 148 #[.pointer (some ⟨b, 0, none⟩), .slice a n c] w (fun e w' => ∃ (a1 : Option Addr) (c1 : Nat) (mm : List (List Int)), e = .returned (.slice a1 mm.length c1) ∧ OwnX w' w.heap.size (.slice a1 mm.length c1) mm ∧ SQ (N + 2) mm ∧ Rdr w' b (K + 1000) ∧ OwnL w' B (.slice a n c) m ∧ UpB b B w w' ∧ ∀ g, g < w.heap.size → g ≠ b → Value.ownBlock (.slice a n c) ≠ some g → w'.heap[g]? = w.heap[g]?) := by
  subst hn
  have hlt := hr.lt
  have hl1 := hL.1
  have HL := Lib.hid hL; clear hL
  obtain ⟨a0, c0, e0, hoi⟩ := hm.slice
  cases e0
  have hmr := hoi.ri
  clear hoi
  go_enter Try.func148, Try.ntmps148
  go_wp2_with fail
  refine (s_aSuite hr hmr (Nat.le_refl _) hbB HL.out (by omega) (by omega)).mono ?_
  rintro e w1 ⟨a1, c1, l, rfl, ho1, hl, hr1, hU1⟩
  have hll := hl.1
  have HLl := Lib.hid hl
  have hs1 := hU1.size
  have hm1 := hm.same fun g h1 h2 => hU1.block g h2 h2 (by omega)
  have hmW1 := hmr.upB hU1 (Nat.le_refl _) (Nat.le_refl _) hbB
  have HOWN : Hid (∀ g, Value.ownBlock (.slice a m.length c) = some g → g < w.heap.size) := fun g hg => (World.ownsRow.lt hm g hg).2
  have hU1B := hU1.less hBw
  clear hr hmr hm hl
  go_wp2_with fail
  refine (s_pick hr1 (by omega) (by omega) (by omega)).mono ?_
  rintro e w2 ⟨v, rfl, hv, hr2, hu2⟩
  have hv0 := hv.1
  have ho2 := ho1.upd hu2 (by omega)
  have hm2 := hm1.upd hu2 hbB
  have hU2 := hU1B.upd hu2
  have hU2w := hU1.upd hu2
  have hs2 := hU2.size
  have HUPD : Hid (SQ (N + 2) l) := ⟨by have := HLl.out.1; omega, fun r h => (HLl.out.2 r h).mono (by omega)⟩
  have hmW := hmW1.upd hu2 (by omega) (.inr (by omega))
  clear ho1 hr1 hU1 hu2 hv hm1 hU1B hmW1
  by_cases e0 : v = 0
  · subst e0
    have hbnd : m.length ≤ 1099511627776 := by omega
    go_wp2_with (at_builtin; refine run_app1kO rfl (.tmp 15) (.tmp 16) rfl B a m.length c m rfl hm2 2 w2.heap.size rfl rfl hbnd (by omega) ?_; intro v3 w3 hown3 hb3 hmr3 hkp3 hm3; obtain ⟨m2, EM, hown3⟩ := named hown3; obtain ⟨a3, c3, hv3, hoi3⟩ := hown3.slice; subst hv3)
    have hz3 := hb3.size
    have hr3 := hr2.below hb3 hbB
    have ho3 := ho2.same hz3 fun g h1 h2 => hkp3 g h2 fun e => by have := HOWN.out g e; omega
    have HL3 : Hid (LP (N + 1) m2) := by show LP _ _; rw [EM.out]; exact HL.out.snoc (by omega)
    have hU3 := hU2.trans ⟨hb3.os, hb3.tape, hb3.output, hb3.size, fun j hj hjB _ => hb3.block j hjB⟩
    have hmW3 : RI w3 B w.heap.size a m := hmr3.own HOWN.out
    have KX3 : Hid (∀ g, g < w.heap.size → g ≠ b → Value.ownBlock (.slice a m.length c) ≠ some g → w3.heap[g]? = w.heap[g]?) := fun g h1 h2 h3 => (hkp3 g (by omega) h3).trans (hU2w.block g h1 h1 h2)
    have hri3 := hoi3.ri
    clear ho2 hr2 hb3 hkp3 hoi3 hown3 hm2 hmr3 hU2 hU2w
    go_wp2_with fail
    refine (s_someTest hr3 hri3 (Nat.le_refl _) hbB HL3.out (by omega)).mono ?_
    rintro e w4 ⟨a4, c4, r, rfl, ho4, hLr, hr4, hU4⟩
    have hs4 := hU4.size
    have hX4 := ho3.upB hU4 (by omega)
    have hm4 := hm3.upBs hU4 hbB
    have KX4 : Hid (∀ g, g < w.heap.size → g ≠ b → Value.ownBlock (.slice a m.length c) ≠ some g → w4.heap[g]? = w.heap[g]?) := fun g h1 h2 h3 => (hU4.block g (by omega) (by omega) h2).trans (KX3.out g h1 h2 h3)
    have hLrn := hLr.1
    have HLr := Lib.hid hLr
    have HOF : Hid (∀ g, (Value.slice a1 l.length c1).ownBlock = some g → g < w3.heap.size) := fun g hg => (ho3.lt g hg).2
    obtain ⟨a5, c5, e5, hoi⟩ := ho4.slice
    cases e5
    have hri := hoi.ri
    have hcp := hoi.cap
    have hU4B := hU3.trans (hU4.less (show B ≤ w3.heap.size by omega))
    have hmW4 := hmW3.upB hU4 (by omega) (by omega) hbB
    have HSP : Hid (SQ (N + 2) (l ++ [r])) := by
      refine ⟨?_, fun q hq => ?_⟩
      · simp; omega
      · rcases List.mem_append.1 hq with hq | hq
        · exact (HLl.out.2 q hq).mono (by omega)
        · simp at hq; subst hq; exact HLr.out
    clear ho3 ho4 hoi hLr hU4 hU3 hri3 hmW3
    go_wp2_with (first
      | (at_builtin; refine wpList_appX rfl (.tmp 13) (.tmp 19) rfl w.heap.size w3.heap.size w4.heap.size _ l rfl hX4 (by omega) r a4 r.length c4 rfl hri hcp (by omega) (Nat.le_refl _) HOF.out w4.heap.size rfl rfl (by omega) ?_; intro v8 w8 hown8 hb8 _; obtain ⟨l2, EL2⟩ : ∃ l2, l ++ [r] = l2 := ⟨_, rfl⟩; rw [EL2] at hown8; obtain ⟨a8, c8, hv8, _⟩ := hown8.riic; subst hv8)
      | go_in)
    have HSP2 : Hid (SQ (N + 2) l2) := by show SQ _ _; rw [← EL2]; exact HSP.out
    have hr8 := hr4.below hb8 hlt
    have hU8 := hU4B.below hb8 (by omega)
    have hmW8 := hmW4.below hb8 (Nat.le_refl _)
    have KX8 : Hid (∀ g, g < w.heap.size → g ≠ b → Value.ownBlock (.slice a m.length c) ≠ some g → w8.heap[g]? = w.heap[g]?) := fun g h1 h2 h3 => (hb8.block g h1).trans (KX4.out g h1 h2 h3)
    have hz8 := hb8.size
    have hm8 := ownL_keep hm4 fun g hg => hb8.block g (HOWN.out g hg)
    clear hX4 hri hr4 hU4B hb8 hmW4 hm4 hm3
    go_ret
    exact ⟨a8, c8, l2, rfl, hown8, HSP2.out, hr8.mono (by omega), hm8, hU8, KX8.out⟩
  by_cases e1 : v = 1
  · subst e1
    go_wp2
    go_loopw [5] (fun v wr => ∃ (a : Option Addr) (c : Nat) (l : List (List Int)), v = .slice a l.length c ∧ OwnX wr w.heap.size (.slice a l.length c) l ∧ l.length ≤ 24 ∧ Hid (∀ r ∈ l, LP (N + 2) r) ∧ Rdr wr b (K + 401 + l.length * 22) ∧ UpB b w.heap.size w2 wr) (fun v _ => 21 - lenV v)
    case atStart => exact ⟨a1, c1, l, rfl, ho2, by omega, HUPD.out.2, hr2.mono (by omega), UpB.refl _ _ _⟩
    case round =>
      clear ho2 hr2
      obtain ⟨al, cl, l, rfl, ho, hl24, hLl, hr, hU⟩ := hrel
      have hszr := hU.size
      have hmq := hmW.upB hU (by omega) (Nat.le_refl _) hbB
      by_cases hlt2 : (l.length : Int) < 21
      · go_wp2_with fail
        refine (s_aTest hr hmq (by omega) hbB HL.out (by omega)).mono ?_
        rintro e w6 ⟨a6, c6, r, rfl, ho6, hl6, hr6, hU6⟩
        have HL6 := Lib.hid (hl6.2.mono (show N ≤ N + 2 by omega))
        have hl6n := hl6.2.1
        have hs6 := hU6.size
        have hX6 := ho.upB hU6 (by omega)
        have HOF : Hid (∀ g, (Value.slice al l.length cl).ownBlock = some g → g < wr.heap.size) := fun g hg => (ho.lt g hg).2
        obtain ⟨a7, c7, e7, hoi⟩ := ho6.slice
        cases e7
        have hri := hoi.ri
        have hcp := hoi.cap
        have hU6l := hU6.less (show w.heap.size ≤ wr.heap.size by omega)
        clear ho6 hl6 ho hU6 hoi
        go_wp2_with (first
          | (at_builtin; refine wpList_appX rfl (.tmp 26) (.tmp 30) rfl w.heap.size wr.heap.size w6.heap.size _ l rfl hX6 (by omega) r a6 r.length c6 rfl hri hcp (by omega) (Nat.le_refl _) HOF.out w6.heap.size rfl rfl (by omega) ?_; intro v8 w8 hown8 hb8 _; obtain ⟨a8, c8, hv8, _⟩ := hown8.riic; subst hv8)
          | go_in)
        have hr8 := hr6.below hb8 (by omega)
        have hU8 := (hU.trans hU6l).below hb8 (Nat.le_refl _)
        have HL8 := Lib.hid (SP.snoc hLl.out HL6.out)
        clear hX6 hri hr6 hU6l hU hb8 hmq
        go_roundw
        case rel => exact ⟨a8, c8, l ++ [r], by simp, hown8, by simp; omega, HL8, hr8.mono (by simp; omega), hU8⟩
        case measure => simp [lenV]; omega
      · go_wp2
        go_ret
        exact ⟨al, cl, l, rfl, ho, ⟨hl24, hLl.out⟩, hr.mono (by omega), ownL_keep hm2 (fun g hg => hU.block g (by have := HOWN.out g hg; omega) (HOWN.out g hg) (by have := (World.ownsRow.lt hm2 g hg).1; omega)), hU2.trans (hU.less hBw), fun g h1 h2 _ => (hU.block g (by omega) h1 h2).trans (hU2w.block g h1 h1 h2)⟩
  have hv2 : 2 ≤ v := by omega
  go_wp2
  go_ret
  exact ⟨a1, c1, l, rfl, ho2, HUPD.out, hr2.mono (by omega), hm2, hU2, fun g h1 h2 _ => hU2w.block g h1 h1 h2⟩

def DrR (w : World) (e : Ending) (w' : World) : Prop := ∃ (a1 : Option Addr) (c1 : Nat) (m : List Int) (a2 : Option Addr) (c2 : Nat) (s : List (List Int)) (a3 : Option Addr) (c3 : Nat) (u : List (List Int)), e = .returned (.tuple #[.slice a1 m.length c1, .slice a2 s.length c2, .slice a3 u.length c3]) ∧ (Got w w' 10 a1 c1 m ∧ GotS w w' 12 a2 c2 s ∧ GotS w w' 12 a3 c3 u) ∧ Below w.heap.size w w'

set_option maxRecDepth 100000 in
set_option maxHeartbeats 2000000 in
theorem s_DrawResultsOf {n : Nat} {a : Option Addr} {c : Nat} {w : World} (hm : RB w w.heap.size a n) (hc : n ≤ c) (hl : n ≤ 1048576) :
    Calls Try.prog 89 #[.slice a n c] w (DrR w) := by
  go_enter Try.func89, Try.ntmps89
  go_wp2_with fail
  refine (s_newReader hm hc hl).mono ?_
  rintro e w1 ⟨rfl, hr1, hb1⟩
  have hlt := hr1.lt
  go_wp2_with fail
  refine (s_goodModel hr1 (by omega)).mono ?_
  rintro e w2 ⟨a2, c2, m2, rfl, ho2, hL2, hr2, hU2⟩
  go_wp2_with fail
  refine (s_bentModel hr2 (by omega) ho2 rfl hL2 (by omega) hlt hU2.size).mono ?_
  rintro e w3 ⟨a3, c3, m3, rfl, ho3, hL3, hr3, hU3⟩
  have hU := hU2.trans hU3
  have hcap := ho3.cap.2
  have hs3 := hU.size
  have hl10 := hL3.1
  have HOWN : Hid (∀ g, Value.ownBlock (.slice a3 m3.length c3) = some g → g < w3.heap.size) := fun g hg => (World.ownsRow.lt ho3 g hg).2
  clear ho2 hL2 hr2 hU2 hU3 hr1
  have HL3 := Lib.hid hL3
  go_wp2_with fail
  refine (s_someSuiteP hr3 ho3 rfl hlt hs3 hL3 (by omega) (by omega)).mono ?_
  rintro e w4 ⟨a4, c4, s, rfl, ho4, hS4, hr4, hm4, hU4, _⟩
  have hs4 := hU4.size
  have hsl := hS4.1
  have HS4 := Lib.hid hS4
  obtain ⟨a5, c5, e5, hR4⟩ := ho4.riic
  cases e5
  have hU4 := hU.trans hU4
  clear ho3 hr3 hU ho4 hS4 hL3
  go_wp2_with fail
  refine (s_someBansO hr4 hm4 rfl hlt (by omega) HL3.out (by omega) (by omega)).mono ?_
  rintro e w5 ⟨a20, c20, u, rfl, ho20, hS20, hr20, hm20, hU20, hk20⟩
  have hs20 := hU20.size
  obtain ⟨_, _, e20, hRu⟩ := ho20.riic
  cases e20
  obtain ⟨_, _, e21, hoi20⟩ := hm20.slice
  cases e21
  have hri20 := hoi20.ri
  have hR20 : RIIc w5 w3.heap.size w4.heap.size a4 c4 s := ⟨hR4.rii.same fun k h1 h2 => hk20 k (by omega) (by omega) (fun e => by have := HOWN.out k e; omega), hR4.cap⟩
  have hUU20 := hU4.trans hU20
  have HS20 := Lib.hid hS20
  clear hr4 hm4 hR4 hU4 hU20 hk20 ho20 hS20 hm20 hoi20
  go_wp2
  go_ret3
  exact ⟨_, _, m3, _, _, s, _, _, u, rfl, ⟨⟨hri20.wide (by omega) (by omega), HL3.out, hcap⟩, ⟨hR20.wide (by omega) (by omega), HS4.out⟩, ⟨hRu.wide (by omega) (by omega), HS20.out⟩⟩, hb1.trans (hUU20.toBelow (by omega) (by omega))⟩

end Go.Proofs.Ytehoagbpgahopaa
