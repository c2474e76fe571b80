/- Walks: least bans, by the program. -/
import Derived.Test.YtpfojkhgelmciaaZl
import Derived.Laws.OwnMore
namespace Go.Proofs.Ytpfojkhgelmciaa
open Go.RowKit

theorem at5_set {p : List Int} {k i : Nat} {x : Int} (hk : k < p.length) : at5 (p.set k x) i = if i = k then x else at5 p i := by
  unfold at5
  rw [List.getD_eq_getElem?_getD, List.getD_eq_getElem?_getD, List.getElem?_set]
  by_cases e : k = i
  · subst e; simp [hk]
  · rw [if_neg e, if_neg (fun h => e h.symm)]
theorem cel5_set {p : List Int} {k : Nat} {x : Int} (hk : k < p.length) (h5 : p.length ≤ 5) : (#[.int .i64 (at5 p 0), .int .i64 (at5 p 1), .int .i64 (at5 p 2), .int .i64 (at5 p 3), .int .i64 (at5 p 4)] : Array Value).setIfInBounds k (.int .i64 x) = #[.int .i64 (at5 (p.set k x) 0), .int .i64 (at5 (p.set k x) 1), .int .i64 (at5 (p.set k x) 2), .int .i64 (at5 (p.set k x) 3), .int .i64 (at5 (p.set k x) 4)] := by
  have h : ∀ i, at5 (p.set k x) i = if i = k then x else at5 p i := fun i => at5_set hk
  rcases (by omega : k = 0 ∨ k = 1 ∨ k = 2 ∨ k = 3 ∨ k = 4) with e | e | e | e | e <;> subst e <;> simp [h]
theorem eq5_set {p : List Int} {k : Nat} (hk : k < p.length) (h5 : p.length ≤ 5) : eq5 (at5 (p.set k (-1))) (at5 p) = (at5 p k == -1) := by
  have h : ∀ i, at5 (p.set k (-1)) i = if i = k then -1 else at5 p i := fun i => at5_set hk
  rw [Bool.eq_iff_iff]
  unfold eq5
  rw [List.all_eq_true]
  constructor
  · intro h1
    have h2 := h1 k (List.mem_range.2 (by omega))
    rw [h, if_pos rfl] at h2
    simp at h2
    simp [← h2]
  · intro h1 i hi
    rw [h]
    by_cases e : i = k
    · subst e; simp at h1; simp [h1]
    · simp [e]
theorem okP_any : ∀ {m p : List Int} (k : Nat), m.all lvl = true → okW (-1) m p = true → okW (-1) m (p.set k (-1)) = true
  | [], p, k, _, h => by
    have hl := okW_len h
    simp at hl
    subst hl
    simpa using h
  | y :: m, p, k, hm, h => by
    have hl := okW_len h
    cases p with
    | nil => simp at hl
    | cons x p =>
      rw [okW_cons, Bool.and_eq_true] at h
      rw [List.all_cons, Bool.and_eq_true] at hm
      have h2 := inR_true.1 hm.1
      cases k with
      | zero => rw [List.set_cons_zero, okW_cons, h.1, Bool.true_and, inR_true]; omega
      | succ k => rw [List.set_cons_succ, okW_cons, okP_any k hm.2 h.1, h.2]; rfl
theorem lsB_has {m p : List Int} {b : List (List Int)} (h : hasP (alL m b) p = true) : lsB m b p = false := by unfold lsB; rw [h]; rfl
theorem lsB_yes {m p : List Int} {b : List (List Int)} (h : hasP (alL m b) p = false) (h2 : ∀ j, j < m.length → lsA m b p j = true) : lsB m b p = true := by
  unfold lsB
  rw [h, Bool.not_false, Bool.true_and, List.all_eq_true]
  exact fun j hj => h2 j (List.mem_range.1 hj)
theorem lsB_no {m p : List Int} {b : List (List Int)} {k : Nat} (hk : k < m.length) (h2 : lsA m b p k = false) : lsB m b p = false := by
  unfold lsB
  have h3 : (List.range m.length).all (lsA m b p) = false := by rw [List.all_eq_false]; exact ⟨k, List.mem_range.2 hk, by rw [h2]; decide⟩
  rw [h3, Bool.and_false]

set_option maxRecDepth 100000 in
set_option maxHeartbeats 2000000 in
theorem i_isLeast {m p : List Int} {b : List (List Int)} {v : Value} {a : Option Addr} {c lo hi B : Nat} {w0 w : World} (hm : RI w lo hi a m) (hhi : hi ≤ w.heap.size) (ho : OwnBn w0 B v b) (hb0 : Below w0.heap.size w0 w) (hok : okM m = true) (hob : okBn m b = true) (hop : okP m p = true) :
    Calls Try.prog 122 #[.agg #[.slice a m.length c, v], .agg #[.int .i64 (at5 p 0), .int .i64 (at5 p 1), .int .i64 (at5 p 2), .int .i64 (at5 p 3), .int .i64 (at5 p 4)]] w (NewV w (.bool (lsB m b p))) := by
  have hs0 := hb0.size
  have hm5 := okM_len hok
  have hpl := okW_len (lo := -1) hop
  have HPA := Lib.hid (fun k => okP_any k (okM_all hok) hop)
  have HOK := Lib.hid hok; have HOB := Lib.hid hob; have HOP := Lib.hid hop
  obtain ⟨A0, A1, AB⟩ := al2 w (.cells #[.slice a m.length c, v] 89) (.cells #[.int .i64 (at5 p 0), .int .i64 (at5 p 1), .int .i64 (at5 p 2), .int .i64 (at5 p 3), .int .i64 (at5 p 4)] 53)
  obtain ⟨W, hW⟩ : ∃ W, ((w.alloc (.cells #[.slice a m.length c, v] 89)).alloc (.cells #[.int .i64 (at5 p 0), .int .i64 (at5 p 1), .int .i64 (at5 p 2), .int .i64 (at5 p 3), .int .i64 (at5 p 4)] 53)) = W := ⟨_, rfl⟩
  have hm2 := hm.below AB hhi
  have hWs : W.heap.size = w.heap.size + 2 := by rw [← hW]; simp
  have hA0 := A0; rw [hW] at hA0
  have hA1 := A1; rw [hW] at hA1
  have hAB := AB; rw [hW] at hAB
  have HAB := Lib.hid hAB
  have HS : Hid (∀ w', Below W.heap.size W w' → (w'.cell? ⟨w.heap.size, 0, none⟩ = some (.slice a m.length c) ∧ w'.cell? ⟨w.heap.size, 1, none⟩ = some v) ∧ w'.heap[w.heap.size + 1]? = some (.cells #[.int .i64 (at5 p 0), .int .i64 (at5 p 1), .int .i64 (at5 p 2), .int .i64 (at5 p 3), .int .i64 (at5 p 4)] 53 (0, 0))) := fun w' hb => by
    have h := (hb.block w.heap.size (by omega)).trans hA0
    rw [cell_of_row _ _ 0 _ _ _ h, cell_of_row _ _ 1 _ _ _ h]; exact ⟨⟨rfl, rfl⟩, (hb.block (w.heap.size + 1) (by omega)).trans hA1⟩
  have HMW : Hid (∀ w', Below W.heap.size W w' → RI w' lo hi a m) := fun w' hb => by
    have h : RI W lo hi a m := by rw [← hW]; exact hm2
    exact h.below hb (by omega)
  replace AB := Lib.hid AB
  have HW := Lib.hid hW
  have HWs : Hid (W.heap.size = w.heap.size + 2) := hWs
  clear hok hob hop A0 A1 hA0 hA1 hAB hm hW hWs
  obtain ⟨q, hq⟩ : ∃ q, hasP (alL m b) p = q := ⟨_, rfl⟩
  have HQ := Lib.hid hq
  clear hq
  go_enter Try.func122, Try.ntmps122
  go_wp2_with fail
  refine (i_isPossible hm2 (by simp; omega) ho (hb0.trans (AB.out.mono hs0)) HOK.out HOB.out HOP.out).mono ?_
  rintro e w3 ⟨rfl, hb3⟩
  rw [HW.out] at hb3
  rw [HQ.out]
  have hz3 := hb3.size
  have hzW := HWs.out
  cases q
  case true =>
    clear hzW
    go_wp2
    go_ret
    refine ⟨by rw [lsB_has HQ.out]; rfl, HAB.out.trans (hb3.mono (by have := HWs.out; omega))⟩
  obtain ⟨⟨s0, s1⟩, _⟩ := HS.out w3 hb3
  have hb3 := Lib.hid hb3
  clear hzW hm2
  go_wp2
  go_loopw [13] (fun i wr => ∃ k : Nat, k ≤ m.length ∧ i = .int .i64 k ∧ Hid (∀ j, j < k → lsA m b p j = true) ∧ Below W.heap.size W wr) (fun i _ => m.length - (intOf i).toNat)
  case atStart => exact ⟨0, Nat.zero_le _, rfl, fun j hj => by omega, hb3.out⟩
  case round =>
    clear s0 s1
    obtain ⟨k, hk, rfl, hA, hB⟩ := hrel
    have hz := hB.size
    by_cases hlt : k < m.length
    · obtain ⟨⟨s0, s1⟩, h1⟩ := HS.out wr hB
      obtain ⟨p0, p1, p2, p3, p4⟩ := cells5' h1
      have hlist : ([.int .i64 (at5 p 0), .int .i64 (at5 p 1), .int .i64 (at5 p 2), .int .i64 (at5 p 3), .int .i64 (at5 p 4)] : List Value).set k (.int .i64 (-1)) = [.int .i64 (at5 (p.set k (-1)) 0), .int .i64 (at5 (p.set k (-1)) 1), .int .i64 (at5 (p.set k (-1)) 2), .int .i64 (at5 (p.set k (-1)) 3), .int .i64 (at5 (p.set k (-1)) 4)] := by
        have h : ∀ i, at5 (p.set k (-1)) i = if i = k then -1 else at5 p i := fun i => at5_set (by omega)
        rcases (by omega : k = 0 ∨ k = 1 ∨ k = 2 ∨ k = 3 ∨ k = 4) with e | e | e | e | e <;> subst e <;> simp [h]
      have hix := idxAt5 wr.heap.size (show k < 5 by omega)
      have hBS := hB.trans (((Below.refl wr.heap.size wr).alloc (Nat.le_refl _) (.cells #[.int .i64 (at5 (p.set k (-1)) 0), .int .i64 (at5 (p.set k (-1)) 1), .int .i64 (at5 (p.set k (-1)) 2), .int .i64 (at5 (p.set k (-1)) 3), .int .i64 (at5 (p.set k (-1)) 4)] 53)).mono hz)
      have hzz : w.heap.size + 1 < wr.heap.size := by have := HWs.out; omega
      have hzz0 : w.heap.size < wr.heap.size := by omega
      have hget : ([.int .i64 (at5 p 0), .int .i64 (at5 p 1), .int .i64 (at5 p 2), .int .i64 (at5 p 3), .int .i64 (at5 p 4)] : List Value)[k]? = some (.int .i64 (at5 p k)) := by
        rcases (by omega : k = 0 ∨ k = 1 ∨ k = 2 ∨ k = 3 ∨ k = 4) with e | e | e | e | e <;> subst e <;> rfl
      have hfr := frozen5 (heap_alloc_new wr (.cells #[.int .i64 (at5 p 0), .int .i64 (at5 p 1), .int .i64 (at5 p 2), .int .i64 (at5 p 3), .int .i64 (at5 p 4)] 53)) k
      have HBS := Lib.hid hBS
      have HEQ := Lib.hid (eq5_set (p := p) (k := k) (by omega) (by omega))
      clear hBS h1
      by_cases hany : at5 p k = -1
      · have heq : ∀ w, (Op.equalIn 10000 53 (.agg #[.int .i64 (at5 (p.set k (-1)) 0), .int .i64 (at5 (p.set k (-1)) 1), .int .i64 (at5 (p.set k (-1)) 2), .int .i64 (at5 (p.set k (-1)) 3), .int .i64 (at5 (p.set k (-1)) 4)]) (.agg #[.int .i64 (at5 p 0), .int .i64 (at5 p 1), .int .i64 (at5 p 2), .int .i64 (at5 p 3), .int .i64 (at5 p 4)])).run Try.prog w = .ok true w := fun w => by
          have h := eqArrI 9998 (at5 (p.set k (-1))) (at5 p) w
          rw [HEQ.out, hany] at h
          exact h
        have HLA : Hid (∀ j, j < k + 1 → lsA m b p j = true) := fun j hj => by
          by_cases e : j < k
          · exact hA.out j e
          · obtain rfl : j = k := by omega
            unfold lsA; rw [hany]; rfl
        clear hany
        go_wp2
        go_roundw
        case rel => exact ⟨k + 1, by omega, by go_num, HLA, HBS.out⟩
        case measure => simp [intOf]; omega
      · have hanyb : (at5 p k == -1) = false := by rw [beq_eq_false_iff_ne]; exact hany
        have heq : ∀ w, (Op.equalIn 10000 53 (.agg #[.int .i64 (at5 (p.set k (-1)) 0), .int .i64 (at5 (p.set k (-1)) 1), .int .i64 (at5 (p.set k (-1)) 2), .int .i64 (at5 (p.set k (-1)) 3), .int .i64 (at5 (p.set k (-1)) 4)]) (.agg #[.int .i64 (at5 p 0), .int .i64 (at5 p 1), .int .i64 (at5 p 2), .int .i64 (at5 p 3), .int .i64 (at5 p 4)])).run Try.prog w = .ok false w := fun w => by
          have h := eqArrI 9998 (at5 (p.set k (-1))) (at5 p) w
          rw [HEQ.out, hanyb] at h
          exact h
        have hMS := HMW.out _ HBS.out
        have HLK : Hid (lsA m b p k = hasP (alL m b) (p.set k (-1))) := by show _ = _; unfold lsA; rw [hanyb, Bool.false_or]
        clear hany hanyb
        go_wp2_with fail
        refine (i_isPossible (p := p.set k (-1)) hMS (by simp; omega) ho (hb0.trans ((HAB.out.trans (HBS.out.mono (by have := HWs.out; omega))).mono hs0)) HOK.out HOB.out (HPA.out k)).mono ?_
        rintro e w5 ⟨rfl, hb5⟩
        have hB5 := HBS.out.trans (hb5.mono (by simp; omega))
        obtain ⟨q2, hq2⟩ : ∃ q2, hasP (alL m b) (p.set k (-1)) = q2 := ⟨_, rfl⟩
        have HQ2 := Lib.hid hq2
        rw [hq2]
        have HB5 := Lib.hid hB5
        clear hq2 hb5 hB5 hMS
        cases q2
        · go_wp2
          go_ret
          exact ⟨by rw [lsB_no hlt (HLK.out.trans HQ2.out)]; rfl, HAB.out.trans (HB5.out.mono (by have := HWs.out; omega))⟩
        · have HLA : Hid (∀ j, j < k + 1 → lsA m b p j = true) := fun j hj => by
            by_cases e : j < k
            · exact hA.out j e
            · obtain rfl : j = k := by omega
              exact HLK.out.trans HQ2.out
          go_wp2
          go_roundw
          case rel => exact ⟨k + 1, by omega, by go_num, HLA, HB5.out⟩
          case measure => simp [intOf]; omega
    · have HLA : Hid (∀ j, j < m.length → lsA m b p j = true) := fun j hj => hA.out j (by omega)
      go_wp2
      go_ret
      exact ⟨by rw [lsB_yes HQ.out HLA.out]; rfl, HAB.out.trans (hB.mono (by have := HWs.out; omega))⟩

set_option maxRecDepth 100000 in
/-- append of a list of patterns to a list of patterns -/
theorem run_appPP {w : World} (ty : TypeId) (B B2 : Nat) (v v2 : Value) (ps qs : List (List Int)) (hown : OwnP w B v ps) (hq : OwnP w B2 v2 qs) (hl : ps.length + qs.length ≤ 1048576) (hB : B ≤ w.heap.size) :
    ∃ v' w', (Builtin.append_ #[50, 50] ty #[v, v2]).run Try.prog w = .ok v' w' ∧ OwnP w' B v' (ps ++ qs) ∧ w.grownBy w' v.ownBlock := by
  obtain ⟨i0, hi, hz0, hz1, hz2⟩ := info_parts infoPat
  rcases hq.2 with ⟨rfl, h0⟩ | ⟨g, cap, cur, rfl, hbg, hg, hnc, hcm, hcs, htake⟩
  · have e : qs = [] := List.eq_nil_of_length_eq_zero h0
    subst e
    exact ⟨v, w, run_append_owned_none (P := Try.prog) w B 50 ty 53 i0 5 undPs hi v ps.length (ps.flatMap cs5) hown, by rw [List.append_nil]; exact hown, ⟨rfl, rfl, rfl, Nat.le_refl _, fun _ _ _ => rfl⟩⟩
  · obtain ⟨v', w', hr, g1, g2, _, _⟩ := run_append_own_at (P := Try.prog) w B 50 ty 53 i0 _ 5 40 undPs hi hz0 hz1 hz2 rfl (by decide) v ps.length (ps.flatMap cs5) hown ⟨g, 0, none⟩ qs.length cap (qs.flatMap cs5) hq.1 (World.ownsRow.cells hq (g := g) rfl)
      (by intro u hu; obtain ⟨l, _, hu⟩ := List.mem_flatMap.1 hu; simp [cs5] at hu; rcases hu with rfl | rfl | rfl | rfl | rfl <;> rfl) (by unfold maxLen; omega) (by omega) hB
    exact ⟨v', w', hr, by unfold OwnP; rw [List.flatMap_append, List.length_append]; exact g1, g2⟩
theorem step_appPP {w : World} {ops : Array Oper} {o : Oper} {a : Act} {K : Act → World → Prop} {Q : Exit → Act → World → Prop} {E : Prop} (hgd : o.guard = none) (s t : Operand)
    (ho : o.op = .call { callee := .builtin .append, args := #[s, t], argTypes := #[50, 50] }) (B : Nat) (v : Value) (ps : List (List Int)) (hs : a.eval s = v) (hown : OwnP w B v ps) (B2 : Nat) (v2 : Value) (qs : List (List Int))
    (hx : a.eval t = v2) (hq : OwnP w B2 v2 qs) (hl : ps.length + qs.length ≤ 1048576) (hB : B ≤ w.heap.size)
    (h : ∀ v' w', OwnP w' B v' (ps ++ qs) → w.grownBy w' v.ownBlock → K (a.put o.dst v') w') : if Region.wanted o (yielded ops a.tmps) = true then Oper.wp Try.prog o a w K Q else E := by
  have hw : Region.wanted o (yielded ops a.tmps) = true := by simp [Region.wanted, hgd]
  rw [if_pos hw]
  obtain ⟨v', w', hr, g1, g2⟩ := run_appPP (w := w) o.type B B2 v v2 ps qs hown hq hl hB
  unfold Oper.wp execOp
  simp only [ho, resolve, invoke, builtin, Sem.run_bind, Sem.run_pure, Result.andThen_ok, List.map_toArray, List.map_cons, List.map_nil, hs, hx, hr]
  exact h v' w' g1 g2

set_option maxRecDepth 100000 in
set_option maxHeartbeats 4000000 in
theorem i_LeastBans {m : List Int} {a : Option Addr} {c lo hi : Nat} {s : List (List Int)} {a1 : Option Addr} {c1 lo1 hi1 : Nat} {w : World} (hm : RI w lo hi a m) (hlm : m.length ≤ 9223372036854775807) (hs : RII w lo1 hi1 a1 s) (hls : s.length ≤ 9223372036854775807) (hg : ∀ r ∈ s, r.length ≤ 9223372036854775807) (hB : hi ≤ w.heap.size) (hB1 : hi1 ≤ w.heap.size)  :
    Calls Try.prog 57 #[.slice a m.length c, .slice a1 s.length c1] w (NewII w (lbL m s)) := by
  have HG := Lib.hid hg; clear hg
  have D0 : Dr w w := Dr.refl w
  cases hHIB : okM m && okBn m s
  · have HIB := Lib.hid hHIB; clear hHIB
    go_enter Try.func57, Try.ntmps57
    go_wp2_with fail
    refine (i_ValidBans (hm.dr D0) hlm (hs.dr D0) hls HG.out).mono ?_
    rintro e w1 ⟨rfl, d1⟩
    rw [HIB.out]
    have D1 := Dr.trans D0 d1
    clear d1
    go_wp2
    go_ret
    exact NewII.none (lb_no (show bnM m s = false from HIB.out)) (Dr.below D1 _)
  have HIB := Lib.hid hHIB; clear hHIB
  have hE := HIB.out
  rw [Bool.and_eq_true] at hE
  have HOK := Lib.hid hE.1
  have HOB := Lib.hid hE.2
  clear hE
  have hsl := okBn_len HOB.out
  have HR := Lib.hid (bn_rows HOB.out)
  have hm5 := okM_len HOK.out
  have HLB := Lib.hid (lb_yes HOK.out HOB.out)
  go_enter Try.func57, Try.ntmps57
  go_wp2_with fail
  refine (i_ValidBans (hm.dr D0) hlm (hs.dr D0) hls HG.out).mono ?_
  rintro e w1 ⟨rfl, d1⟩
  rw [HIB.out]
  have D2 := Dr.trans D0 d1
  clear d1
  have Z2 := Dr.le D2
  go_wp2_with fail
  refine (i_rulesOf m.length (hs.dr D2) (by omega) hsl (fun r hr => by have := HR.out r hr; omega)).mono ?_
  rintro e w3 ⟨v, rfl, ho3, hb3⟩
  obtain ⟨va, vc, hv3, ho3⟩ := ho3.slice
  subst hv3
  have hz3 := hb3.size
  have hm3 := (hm.dr D2).below hb3 (by omega)
  have hA := Lib.hid (heap_alloc_new w3 (.cells #[.slice a m.length c, .slice va s.length vc] 89))
  have hbA := (Below.refl w3.heap.size w3).alloc (Nat.le_refl _) (.cells #[.slice a m.length c, .slice va s.length vc] 89)
  obtain ⟨W, hWe⟩ : ∃ W, w3.alloc (.cells #[.slice a m.length c, .slice va s.length vc] 89) = W := ⟨_, rfl⟩
  have hWs : W.heap.size = w3.heap.size + 1 := by rw [← hWe]; simp
  rw [hWe] at hA hbA
  have HWs := Lib.hid hWs
  have HBA := Lib.hid hbA
  have hB03 : Below w.heap.size w w3 := (Dr.below D2 w.heap.size).trans (hb3.mono (by omega))
  have HB03 := Lib.hid hB03
  have HS : Hid (∀ w', Below W.heap.size W w' → w'.cell? ⟨w3.heap.size, 0, none⟩ = some (.slice a m.length c) ∧ w'.cell? ⟨w3.heap.size, 1, none⟩ = some (.slice va s.length vc)) := fun w' hb => by
    have h := (hb.block w3.heap.size (by omega)).trans hA.out
    rw [cell_of_row _ _ 0 _ _ _ h, cell_of_row _ _ 1 _ _ _ h]; exact ⟨rfl, rfl⟩
  have HMW : Hid (∀ w', Below W.heap.size W w' → RI w' lo hi a m) := fun w' hb => (hm3.below hbA (by omega)).below hb (by omega)
  have HLS : Hid (∀ w', Below W.heap.size W w' → ∀ l, okP m l = true → Calls Try.prog 122 #[.agg #[.slice a m.length c, .slice va s.length vc], .agg #[.int .i64 (at5 l 0), .int .i64 (at5 l 1), .int .i64 (at5 l 2), .int .i64 (at5 l 3), .int .i64 (at5 l 4)]] w' (NewV w' (.bool (lsB m s l)))) := fun w' hb l hl =>
    i_isLeast (HMW.out w' hb) (by have := hb.size; omega) ho3 (hbA.trans (hb.mono (by omega))) HOK.out HOB.out hl
  clear hbA hm3 hB03 hm hs hWs
  go_wp2
  go_loopw [6, 18] (fun vl i wr => ∃ k : Nat, k ≤ m.length + 1 ∧ i = .int .i64 k ∧ OwnP wr W.heap.size vl (lbK m s k) ∧ Below W.heap.size W wr) (fun _ i _ => m.length + 1 - (intOf i).toNat)
  case atStart => exact ⟨0, Nat.zero_le _, rfl, OwnP.nil _ _, Below.refl _ _⟩
  case round =>
    clear hWe
    obtain ⟨k, hk, rfl, hown, hq0⟩ := hrel
    have hz := hq0.size
    by_cases hlt : k < m.length + 1
    · have hPat := Lib.hid (patS_len (head := []) HOK.out (k : Int))
      have hkm : (k : Int) ≤ m.length := by omega
      have hLK := lbK_len (b := s) HOK.out k
      have hkl := Nat.mul_le_mul_left 1024 (show k ≤ 6 by omega)
      have hq1 : Below wr.heap.size wr wr := Below.refl _ _
      obtain ⟨ps, hps⟩ : ∃ ps, patS m [] (k : Int) = ps := ⟨_, rfl⟩
      have hpl : ps.length ≤ 1024 := by rw [← hps]; exact hPat.out
      have hfl : (ps.filter (lsB m s)).length ≤ 1024 := Nat.le_trans (List.length_filter_le _ _) hpl
      have HSU : Hid (lbK m s (k + 1) = lbK m s k ++ ps.filter (lsB m s)) := by show _ = _; rw [lbK_succ]; unfold lsP; rw [hps]
      have HPO : Hid (∀ l ∈ ps, okP m l = true) := fun l hl => by rw [← hps] at hl; exact ((mem_patS HOK.out).1 hl).1
      have HC1 : Hid (Calls Try.prog 72 #[.slice a m.length c, .int .i64 (k : Int)] wr.drew (NewP wr.drew ps)) := by
        rw [← hps]; exact i_patternsOf HOK.out ((HMW.out wr hq0).below ((Below.refl wr.heap.size wr).drew) (by have := HWs.out; omega)) (by have := HWs.out; simp; omega) (by omega) hkm
      have HC2 : Hid (∀ w2 v2, Below wr.heap.size wr w2 → OwnP w2 wr.heap.size v2 ps → Calls Try.prog 121 #[v2, .func (.func 122) #[.agg #[.slice a m.length c, .slice va s.length vc]] #[]] w2 (NewP w2 (ps.filter (lsB m s)))) := fun w2 v2 hb hop => by
        refine i_keptLst (B := wr.heap.size) _ _ hop (Below.refl _ _) (by omega) fun l hl w' hb' => ?_
        have hz2 := hb.size
        exact HLS.out w' (hq0.trans ((hb.trans (hb'.mono hz2)).mono hz)) l (HPO.out l hl)
      have HSW : Hid (∀ w', Below wr.heap.size wr w' → w'.cell? ⟨w3.heap.size, 0, none⟩ = some (.slice a m.length c) ∧ w'.cell? ⟨w3.heap.size, 1, none⟩ = some (.slice va s.length vc)) := fun w' hb => HS.out w' (hq0.trans (hb.mono hz))
      have HOWN := Lib.hid hown
      have HLT := Lib.hid hown.lt
      clear hown hps hkm
      go_wp2_with fail
      go_region_held3 (fun w' => w'.cell? ⟨w3.heap.size, 0, none⟩ = some (.slice a m.length c) ∧ w'.cell? ⟨w3.heap.size, 1, none⟩ = some (.slice va s.length vc))
        (first | exact HS.out _ hq5 | exact HSW.out _ (by first | exact hq3 | exact hq2 | exact hq1.drew | exact hq1) | go_keep) ((first
        | (go_at_call 72; refine HC1.out.mono ?_; rintro e w2 ⟨v2, rfl, ho2, hb2⟩; have hq2 : Below wr.heap.size wr w2 := hq1.drew.trans hb2; have hz2 := hq2.size)
        | (go_at_call 121; refine (HC2.out w2 v2 hq2 ho2).mono ?_; rintro e w4 ⟨v4, rfl, ho4, hb4⟩; have hq3 : Below wr.heap.size wr w4 := hq2.trans (hb4.mono hz2); have hz4 := hq3.size)
        | (refine step_appPP (by rfl) _ _ (by rfl) W.heap.size _ (lbK m s k) (by rfl) (HOWN.out.kept fun j hj _ => hq3.block j hj) _ _ (ps.filter (lsB m s)) (by rfl) ho4 (by omega) (by omega) ?_; intro v5 w5 hown5 hg5; have hq5 : Below W.heap.size W w5 := (hq0.trans (hq3.mono hz)).grown hg5 (by omega) (fun g hg => (HLT.out g hg).1); rw [← HSU.out] at hown5)))
      all_goals
        go_wp2
        go_roundw
        case rel => exact ⟨k + 1, by omega, by go_num, hown5, hq5⟩
        case measure => simp [intOf]; omega
    · obtain rfl : k = m.length + 1 := by omega
      have hLK := lbK_len (b := s) HOK.out (m.length + 1)
      have hkl := Nat.mul_le_mul_left 1024 (show m.length + 1 ≤ 6 by omega)
      go_wp2_with fail
      refine (i_listsOf hown hm5.1 hm5.2 (by omega) (fun l hl => lbK_row l hl)).mono ?_
      rintro e w5 ⟨a5, c5, rfl, h5, hb5⟩
      have hb03 := HB03.out.trans ((HBA.out.trans ((hq0.trans (hb5.mono hz)).mono (by have := HWs.out; omega))).mono (by omega))
      have hz5 := HB03.out.size
      have hw5 := HWs.out
      go_wp2
      go_ret
      rw [HLB.out]
      exact ⟨_, _, rfl, h5.wide (by omega) (Nat.le_refl _), hb03⟩

end Go.Proofs.Ytpfojkhgelmciaa
