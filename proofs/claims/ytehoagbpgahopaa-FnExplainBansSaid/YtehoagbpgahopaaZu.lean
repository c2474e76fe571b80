/- Walks: least bans, by the program. -/
import Derived.Test.YtehoagbpgahopaaZl
import Derived.Laws.OwnMore
import Derived.Test.YtehoagbpgahopaaRl
import Derived.Test.YtehoagbpgahopaaZa
import Derived.Test.YtehoagbpgahopaaZj
namespace Go.Proofs.Ytehoagbpgahopaa
open Go.RowKit

theorem at5_set {p : List Int} {k i : Nat} {x : Int} (hk : k < p.length) : at5 (p.set k x) i = if i = k then x else at5 p i := by
  unfold at5
  rw [List.getD_eq_getElem?_getD, List.getD_eq_getElem?_getD, List.getElem?_set]
  by_cases e : k = i
  · subst e; simp [hk]
  · rw [if_neg e, if_neg (fun h => e h.symm)]
theorem cel5_set {p : List Int} {k : Nat} {x : Int} (hk : k < p.length) (h5 : p.length ≤ 5) : (#[.int .i64 (at5 p 0), .int .i64 (at5 p 1), .int .i64 (at5 p 2), .int .i64 (at5 p 3), .int .i64 (at5 p 4)] : Array Value).setIfInBounds k (.int .i64 x) = #[.int .i64 (at5 (p.set k x) 0), .int .i64 (at5 (p.set k x) 1), .int .i64 (at5 (p.set k x) 2), .int .i64 (at5 (p.set k x) 3), .int .i64 (at5 (p.set k x) 4)] := by
  have h : ∀ i, at5 (p.set k x) i = if i = k then x else at5 p i := fun i => at5_set hk
  rcases (by omega : k = 0 ∨ k = 1 ∨ k = 2 ∨ k = 3 ∨ k = 4) with e | e | e | e | e <;> subst e <;> simp [h]
theorem eq5_set {p : List Int} {k : Nat} (hk : k < p.length) (h5 : p.length ≤ 5) : eq5 (at5 (p.set k (-1))) (at5 p) = (at5 p k == -1) := by
  have h : ∀ i, at5 (p.set k (-1)) i = if i = k then -1 else at5 p i := fun i => at5_set hk
  rw [Bool.eq_iff_iff]
  unfold eq5
  rw [List.all_eq_true]
  constructor
  · intro h1
    have h2 := h1 k (List.mem_range.2 (by omega))
    rw [h, if_pos rfl] at h2
    simp at h2
    simp [← h2]
  · intro h1 i hi
    rw [h]
    by_cases e : i = k
    · subst e; simp at h1; simp [h1]
    · simp [e]
theorem okP_any : ∀ {m p : List Int} (k : Nat), m.all lvl = true → okW (-1) m p = true → okW (-1) m (p.set k (-1)) = true
  | [], p, k, _, h => by
    have hl := okW_len h
    simp at hl
    subst hl
    simpa using h
  | y :: m, p, k, hm, h => by
    have hl := okW_len h
    cases p with
    | nil => simp at hl
    | cons x p =>
      rw [okW_cons, Bool.and_eq_true] at h
      rw [List.all_cons, Bool.and_eq_true] at hm
      have h2 := inR_true.1 hm.1
      cases k with
      | zero => rw [List.set_cons_zero, okW_cons, h.1, Bool.true_and, inR_true]; omega
      | succ k => rw [List.set_cons_succ, okW_cons, okP_any k hm.2 h.1, h.2]; rfl
theorem lsB_has {m p : List Int} {b : List (List Int)} (h : hasP (alL m b) p = true) : lsB m b p = false := by unfold lsB; rw [h]; rfl
theorem lsB_yes {m p : List Int} {b : List (List Int)} (h : hasP (alL m b) p = false) (h2 : ∀ j, j < m.length → lsA m b p j = true) : lsB m b p = true := by
  unfold lsB
  rw [h, Bool.not_false, Bool.true_and, List.all_eq_true]
  exact fun j hj => h2 j (List.mem_range.1 hj)
theorem lsB_no {m p : List Int} {b : List (List Int)} {k : Nat} (hk : k < m.length) (h2 : lsA m b p k = false) : lsB m b p = false := by
  unfold lsB
  have h3 : (List.range m.length).all (lsA m b p) = false := by rw [List.all_eq_false]; exact ⟨k, List.mem_range.2 hk, by rw [h2]; decide⟩
  rw [h3, Bool.and_false]

set_option maxRecDepth 100000 in
set_option maxHeartbeats 2000000 in
theorem i_isLeast {m p : List Int} {b : List (List Int)} {v : Value} {a : Option Addr} {c lo hi B : Nat} {w0 w : World} (hm : RI w lo hi a m) (hhi : hi ≤ w.heap.size) (ho : OwnBn w0 B v b) (hb0 : Below w0.heap.size w0 w) (hok : okM m = true) (hob : okBn m b = true) (hop : okP m p = true) :
    Calls Try.prog 193 #[.agg #[.slice a m.length c, v], .agg #[.int .i64 (at5 p 0), .int .i64 (at5 p 1), .int .i64 (at5 p 2), .int .i64 (at5 p 3), .int .i64 (at5 p 4)]] w (NewV w (.bool (lsB m b p))) := by
  have hs0 := hb0.size
  have hm5 := okM_len hok
  have hpl := okW_len (lo := -1) hop
  have HPA := Lib.hid (fun k => okP_any k (okM_all hok) hop)
  have HOK := Lib.hid hok; have HOB := Lib.hid hob; have HOP := Lib.hid hop
  obtain ⟨A0, A1, AB⟩ := al2 w (.cells #[.slice a m.length c, v] 93) (.cells #[.int .i64 (at5 p 0), .int .i64 (at5 p 1), .int .i64 (at5 p 2), .int .i64 (at5 p 3), .int .i64 (at5 p 4)] 97)
  obtain ⟨W, hW⟩ : ∃ W, ((w.alloc (.cells #[.slice a m.length c, v] 93)).alloc (.cells #[.int .i64 (at5 p 0), .int .i64 (at5 p 1), .int .i64 (at5 p 2), .int .i64 (at5 p 3), .int .i64 (at5 p 4)] 97)) = W := ⟨_, rfl⟩
  have hm2 := hm.below AB hhi
  have hWs : W.heap.size = w.heap.size + 2 := by rw [← hW]; simp
  have hA0 := A0; rw [hW] at hA0
  have hA1 := A1; rw [hW] at hA1
  have hAB := AB; rw [hW] at hAB
  have HAB := Lib.hid hAB
  have HS : Hid (∀ w', Below W.heap.size W w' → (w'.cell? ⟨w.heap.size, 0, none⟩ = some (.slice a m.length c) ∧ w'.cell? ⟨w.heap.size, 1, none⟩ = some v) ∧ w'.heap[w.heap.size + 1]? = some (.cells #[.int .i64 (at5 p 0), .int .i64 (at5 p 1), .int .i64 (at5 p 2), .int .i64 (at5 p 3), .int .i64 (at5 p 4)] 97 (0, 0))) := fun w' hb => by
    have h := (hb.block w.heap.size (by omega)).trans hA0
    rw [cell_of_row _ _ 0 _ _ _ h, cell_of_row _ _ 1 _ _ _ h]; exact ⟨⟨rfl, rfl⟩, (hb.block (w.heap.size + 1) (by omega)).trans hA1⟩
  have HMW : Hid (∀ w', Below W.heap.size W w' → RI w' lo hi a m) := fun w' hb => by
    have h : RI W lo hi a m := by rw [← hW]; exact hm2
    exact h.below hb (by omega)
  replace AB := Lib.hid AB
  have HW := Lib.hid hW
  have HWs : Hid (W.heap.size = w.heap.size + 2) := hWs
  clear hok hob hop A0 A1 hA0 hA1 hAB hm hW hWs
  obtain ⟨q, hq⟩ : ∃ q, hasP (alL m b) p = q := ⟨_, rfl⟩
  have HQ := Lib.hid hq
  clear hq
  go_enter Try.func193, Try.ntmps193
  go_wp2_with fail
  refine (i_isPossible hm2 (by simp; omega) ho (hb0.trans (AB.out.mono hs0)) HOK.out HOB.out HOP.out).mono ?_
  rintro e w3 ⟨rfl, hb3⟩
  rw [HW.out] at hb3
  rw [HQ.out]
  have hz3 := hb3.size
  have hzW := HWs.out
  cases q
  case true =>
    clear hzW
    go_wp2
    go_ret
    refine ⟨by rw [lsB_has HQ.out]; rfl, HAB.out.trans (hb3.mono (by have := HWs.out; omega))⟩
  obtain ⟨⟨s0, s1⟩, _⟩ := HS.out w3 hb3
  have hb3 := Lib.hid hb3
  clear hzW hm2
  go_wp2
  go_loopw [13] (fun i wr => ∃ k : Nat, k ≤ m.length ∧ i = .int .i64 k ∧ Hid (∀ j, j < k → lsA m b p j = true) ∧ Below W.heap.size W wr) (fun i _ => m.length - (intOf i).toNat)
  case atStart => exact ⟨0, Nat.zero_le _, rfl, fun j hj => by omega, hb3.out⟩
  case round =>
    clear s0 s1
    obtain ⟨k, hk, rfl, hA, hB⟩ := hrel
    have hz := hB.size
    by_cases hlt : k < m.length
    · obtain ⟨⟨s0, s1⟩, h1⟩ := HS.out wr hB
      obtain ⟨p0, p1, p2, p3, p4⟩ := cells5' h1
      have hlist : ([.int .i64 (at5 p 0), .int .i64 (at5 p 1), .int .i64 (at5 p 2), .int .i64 (at5 p 3), .int .i64 (at5 p 4)] : List Value).set k (.int .i64 (-1)) = [.int .i64 (at5 (p.set k (-1)) 0), .int .i64 (at5 (p.set k (-1)) 1), .int .i64 (at5 (p.set k (-1)) 2), .int .i64 (at5 (p.set k (-1)) 3), .int .i64 (at5 (p.set k (-1)) 4)] := by
        have h : ∀ i, at5 (p.set k (-1)) i = if i = k then -1 else at5 p i := fun i => at5_set (by omega)
        rcases (by omega : k = 0 ∨ k = 1 ∨ k = 2 ∨ k = 3 ∨ k = 4) with e | e | e | e | e <;> subst e <;> simp [h]
      have hix := idxAt5 wr.heap.size (show k < 5 by omega)
      have hBS := hB.trans (((Below.refl wr.heap.size wr).alloc (Nat.le_refl _) (.cells #[.int .i64 (at5 (p.set k (-1)) 0), .int .i64 (at5 (p.set k (-1)) 1), .int .i64 (at5 (p.set k (-1)) 2), .int .i64 (at5 (p.set k (-1)) 3), .int .i64 (at5 (p.set k (-1)) 4)] 97)).mono hz)
      have hzz : w.heap.size + 1 < wr.heap.size := by have := HWs.out; omega
      have hzz0 : w.heap.size < wr.heap.size := by omega
      have hget : ([.int .i64 (at5 p 0), .int .i64 (at5 p 1), .int .i64 (at5 p 2), .int .i64 (at5 p 3), .int .i64 (at5 p 4)] : List Value)[k]? = some (.int .i64 (at5 p k)) := by
        rcases (by omega : k = 0 ∨ k = 1 ∨ k = 2 ∨ k = 3 ∨ k = 4) with e | e | e | e | e <;> subst e <;> rfl
      have hfr := frozen5 (heap_alloc_new wr (.cells #[.int .i64 (at5 p 0), .int .i64 (at5 p 1), .int .i64 (at5 p 2), .int .i64 (at5 p 3), .int .i64 (at5 p 4)] 97)) k
      have HBS := Lib.hid hBS
      have HEQ := Lib.hid (eq5_set (p := p) (k := k) (by omega) (by omega))
      clear hBS h1
      by_cases hany : at5 p k = -1
      · have heq : ∀ w, (Op.equalIn 10000 97 (.agg #[.int .i64 (at5 (p.set k (-1)) 0), .int .i64 (at5 (p.set k (-1)) 1), .int .i64 (at5 (p.set k (-1)) 2), .int .i64 (at5 (p.set k (-1)) 3), .int .i64 (at5 (p.set k (-1)) 4)]) (.agg #[.int .i64 (at5 p 0), .int .i64 (at5 p 1), .int .i64 (at5 p 2), .int .i64 (at5 p 3), .int .i64 (at5 p 4)])).run Try.prog w = .ok true w := fun w => by
          have h := eqArrI 9998 (at5 (p.set k (-1))) (at5 p) w
          rw [HEQ.out, hany] at h
          exact h
        have HLA : Hid (∀ j, j < k + 1 → lsA m b p j = true) := fun j hj => by
          by_cases e : j < k
          · exact hA.out j e
          · obtain rfl : j = k := by omega
            unfold lsA; rw [hany]; rfl
        clear hany
        go_wp2
        go_roundw
        case rel => exact ⟨k + 1, by omega, by go_num, HLA, HBS.out⟩
        case measure => simp [intOf]; omega
      · have hanyb : (at5 p k == -1) = false := by rw [beq_eq_false_iff_ne]; exact hany
        have heq : ∀ w, (Op.equalIn 10000 97 (.agg #[.int .i64 (at5 (p.set k (-1)) 0), .int .i64 (at5 (p.set k (-1)) 1), .int .i64 (at5 (p.set k (-1)) 2), .int .i64 (at5 (p.set k (-1)) 3), .int .i64 (at5 (p.set k (-1)) 4)]) (.agg #[.int .i64 (at5 p 0), .int .i64 (at5 p 1), .int .i64 (at5 p 2), .int .i64 (at5 p 3), .int .i64 (at5 p 4)])).run Try.prog w = .ok false w := fun w => by
          have h := eqArrI 9998 (at5 (p.set k (-1))) (at5 p) w
          rw [HEQ.out, hanyb] at h
          exact h
        have hMS := HMW.out _ HBS.out
        have HLK : Hid (lsA m b p k = hasP (alL m b) (p.set k (-1))) := by show _ = _; unfold lsA; rw [hanyb, Bool.false_or]
        clear hany hanyb
        go_wp2_with fail
        refine (i_isPossible (p := p.set k (-1)) hMS (by simp; omega) ho (hb0.trans ((HAB.out.trans (HBS.out.mono (by have := HWs.out; omega))).mono hs0)) HOK.out HOB.out (HPA.out k)).mono ?_
        rintro e w5 ⟨rfl, hb5⟩
        have hB5 := HBS.out.trans (hb5.mono (by simp; omega))
        obtain ⟨q2, hq2⟩ : ∃ q2, hasP (alL m b) (p.set k (-1)) = q2 := ⟨_, rfl⟩
        have HQ2 := Lib.hid hq2
        rw [hq2]
        have HB5 := Lib.hid hB5
        clear hq2 hb5 hB5 hMS
        cases q2
        · go_wp2
          go_ret
          exact ⟨by rw [lsB_no hlt (HLK.out.trans HQ2.out)]; rfl, HAB.out.trans (HB5.out.mono (by have := HWs.out; omega))⟩
        · have HLA : Hid (∀ j, j < k + 1 → lsA m b p j = true) := fun j hj => by
            by_cases e : j < k
            · exact hA.out j e
            · obtain rfl : j = k := by omega
              exact HLK.out.trans HQ2.out
          go_wp2
          go_roundw
          case rel => exact ⟨k + 1, by omega, by go_num, HLA, HB5.out⟩
          case measure => simp [intOf]; omega
    · have HLA : Hid (∀ j, j < m.length → lsA m b p j = true) := fun j hj => hA.out j (by omega)
      go_wp2
      go_ret
      exact ⟨by rw [lsB_yes HQ.out HLA.out]; rfl, HAB.out.trans (hB.mono (by have := HWs.out; omega))⟩

set_option maxRecDepth 100000 in
/-- append of a list of patterns to a list of patterns -/
theorem run_appPP {w : World} (ty : TypeId) (B B2 : Nat) (v v2 : Value) (ps qs : List (List Int)) (hown : OwnP w B v ps) (hq : OwnP w B2 v2 qs) (hl : ps.length + qs.length ≤ 1048576) (hB : B ≤ w.heap.size) :
    ∃ v' w', (Builtin.append_ #[105, 105] ty #[v, v2]).run Try.prog w = .ok v' w' ∧ OwnP w' B v' (ps ++ qs) ∧ w.grownBy w' v.ownBlock := by
  obtain ⟨i0, hi, hz0, hz1, hz2⟩ := info_parts infoPat
  rcases hq.2 with ⟨rfl, h0⟩ | ⟨g, cap, cur, rfl, hbg, hg, hnc, hcm, hcs, htake⟩
  · have e : qs = [] := List.eq_nil_of_length_eq_zero h0
    subst e
    exact ⟨v, w, run_append_owned_none (P := Try.prog) w B 105 ty 97 i0 5 undPs hi v ps.length (ps.flatMap cs5) hown, by rw [List.append_nil]; exact hown, ⟨rfl, rfl, rfl, Nat.le_refl _, fun _ _ _ => rfl⟩⟩
  · obtain ⟨v', w', hr, g1, g2, _, _⟩ := run_append_own_at (P := Try.prog) w B 105 ty 97 i0 _ 5 40 undPs hi hz0 hz1 hz2 rfl (by decide) v ps.length (ps.flatMap cs5) hown ⟨g, 0, none⟩ qs.length cap (qs.flatMap cs5) hq.1 (World.ownsRow.cells hq (g := g) rfl)
      (by intro u hu; obtain ⟨l, _, hu⟩ := List.mem_flatMap.1 hu; simp [cs5] at hu; rcases hu with rfl | rfl | rfl | rfl | rfl <;> rfl) (by unfold maxLen; omega) (by omega) hB
    exact ⟨v', w', hr, by unfold OwnP; rw [List.flatMap_append, List.length_append]; exact g1, g2⟩
theorem step_appPP {w : World} {ops : Array Oper} {o : Oper} {a : Act} {K : Act → World → Prop} {Q : Exit → Act → World → Prop} {E : Prop} (hgd : o.guard = none) (s t : Operand)
    (ho : o.op = .call { callee := .builtin .append, args := #[s, t], argTypes := #[105, 105] }) (B : Nat) (v : Value) (ps : List (List Int)) (hs : a.eval s = v) (hown : OwnP w B v ps) (B2 : Nat) (v2 : Value) (qs : List (List Int))
    (hx : a.eval t = v2) (hq : OwnP w B2 v2 qs) (hl : ps.length + qs.length ≤ 1048576) (hB : B ≤ w.heap.size)
    (h : ∀ v' w', OwnP w' B v' (ps ++ qs) → w.grownBy w' v.ownBlock → K (a.put o.dst v') w') : if Region.wanted o (yielded ops a.tmps) = true then Oper.wp Try.prog o a w K Q else E := by
  have hw : Region.wanted o (yielded ops a.tmps) = true := by simp [Region.wanted, hgd]
  rw [if_pos hw]
  obtain ⟨v', w', hr, g1, g2⟩ := run_appPP (w := w) o.type B B2 v v2 ps qs hown hq hl hB
  unfold Oper.wp execOp
  simp only [ho, resolve, invoke, builtin, Sem.run_bind, Sem.run_pure, Result.andThen_ok, List.map_toArray, List.map_cons, List.map_nil, hs, hx, hr]
  exact h v' w' g1 g2

set_option maxRecDepth 100000 in
set_option maxHeartbeats 4000000 in
theorem i_LeastBans {m : List Int} {a : Option Addr} {c lo hi : Nat} {s : List (List Int)} {a1 : Option Addr} {c1 lo1 hi1 : Nat} {w : World} (hm : RI w lo hi a m) (hlm : m.length ≤ 9223372036854775807) (hs : RII w lo1 hi1 a1 s) (hls : s.length ≤ 9223372036854775807) (hg : ∀ r ∈ s, r.length ≤ 9223372036854775807) (hB : hi ≤ w.heap.size) (hB1 : hi1 ≤ w.heap.size)  :
    Calls Try.prog 80 #[.slice a m.length c, .slice a1 s.length c1] w (NewII w (lbL m s)) := by
  have HG := Lib.hid hg; clear hg
  have D0 : Dr w w := Dr.refl w
  cases hHIB : okM m && okBn m s
  · have HIB := Lib.hid hHIB; clear hHIB
    go_enter Try.func80, Try.ntmps80
    go_wp2_with fail
    refine (i_ValidBans (hm.dr D0) hlm (hs.dr D0) hls HG.out).mono ?_
    rintro e w1 ⟨rfl, d1⟩
    rw [HIB.out]
    have D1 := Dr.trans D0 d1
    clear d1
    go_wp2
    go_ret
    exact NewII.none (lb_no (show bnM m s = false from HIB.out)) (Dr.below D1 _)
  have HIB := Lib.hid hHIB; clear hHIB
  have hE := HIB.out
  rw [Bool.and_eq_true] at hE
  have HOK := Lib.hid hE.1
  have HOB := Lib.hid hE.2
  clear hE
  have hsl := okBn_len HOB.out
  have HR := Lib.hid (bn_rows HOB.out)
  have hm5 := okM_len HOK.out
  have HLB := Lib.hid (lb_yes HOK.out HOB.out)
  go_enter Try.func80, Try.ntmps80
  go_wp2_with fail
  refine (i_ValidBans (hm.dr D0) hlm (hs.dr D0) hls HG.out).mono ?_
  rintro e w1 ⟨rfl, d1⟩
  rw [HIB.out]
  have D2 := Dr.trans D0 d1
  clear d1
  have Z2 := Dr.le D2
  go_wp2_with fail
  refine (i_rulesOf m.length (hs.dr D2) (by omega) hsl (fun r hr => by have := HR.out r hr; omega)).mono ?_
  rintro e w3 ⟨v, rfl, ho3, hb3⟩
  obtain ⟨va, vc, hv3, ho3⟩ := ho3.slice
  subst hv3
  have hz3 := hb3.size
  have hm3 := (hm.dr D2).below hb3 (by omega)
  have hA := Lib.hid (heap_alloc_new w3 (.cells #[.slice a m.length c, .slice va s.length vc] 93))
  have hbA := (Below.refl w3.heap.size w3).alloc (Nat.le_refl _) (.cells #[.slice a m.length c, .slice va s.length vc] 93)
  obtain ⟨W, hWe⟩ : ∃ W, w3.alloc (.cells #[.slice a m.length c, .slice va s.length vc] 93) = W := ⟨_, rfl⟩
  have hWs : W.heap.size = w3.heap.size + 1 := by rw [← hWe]; simp
  rw [hWe] at hA hbA
  have HWs := Lib.hid hWs
  have HBA := Lib.hid hbA
  have hB03 : Below w.heap.size w w3 := (Dr.below D2 w.heap.size).trans (hb3.mono (by omega))
  have HB03 := Lib.hid hB03
  have HS : Hid (∀ w', Below W.heap.size W w' → w'.cell? ⟨w3.heap.size, 0, none⟩ = some (.slice a m.length c) ∧ w'.cell? ⟨w3.heap.size, 1, none⟩ = some (.slice va s.length vc)) := fun w' hb => by
    have h := (hb.block w3.heap.size (by omega)).trans hA.out
    rw [cell_of_row _ _ 0 _ _ _ h, cell_of_row _ _ 1 _ _ _ h]; exact ⟨rfl, rfl⟩
  have HMW : Hid (∀ w', Below W.heap.size W w' → RI w' lo hi a m) := fun w' hb => (hm3.below hbA (by omega)).below hb (by omega)
  have HLS : Hid (∀ w', Below W.heap.size W w' → ∀ l, okP m l = true → Calls Try.prog 193 #[.agg #[.slice a m.length c, .slice va s.length vc], .agg #[.int .i64 (at5 l 0), .int .i64 (at5 l 1), .int .i64 (at5 l 2), .int .i64 (at5 l 3), .int .i64 (at5 l 4)]] w' (NewV w' (.bool (lsB m s l)))) := fun w' hb l hl =>
    i_isLeast (HMW.out w' hb) (by have := hb.size; omega) ho3 (hbA.trans (hb.mono (by omega))) HOK.out HOB.out hl
  clear hbA hm3 hB03 hm hs hWs
  go_wp2
  go_loopw [6, 18] (fun vl i wr => ∃ k : Nat, k ≤ m.length + 1 ∧ i = .int .i64 k ∧ OwnP wr W.heap.size vl (lbK m s k) ∧ Below W.heap.size W wr) (fun _ i _ => m.length + 1 - (intOf i).toNat)
  case atStart => exact ⟨0, Nat.zero_le _, rfl, OwnP.nil _ _, Below.refl _ _⟩
  case round =>
    clear hWe
    obtain ⟨k, hk, rfl, hown, hq0⟩ := hrel
    have hz := hq0.size
    by_cases hlt : k < m.length + 1
    · have hPat := Lib.hid (patS_len (head := []) HOK.out (k : Int))
      have hkm : (k : Int) ≤ m.length := by omega
      have hLK := lbK_len (b := s) HOK.out k
      have hkl := Nat.mul_le_mul_left 1024 (show k ≤ 6 by omega)
      have hq1 : Below wr.heap.size wr wr := Below.refl _ _
      obtain ⟨ps, hps⟩ : ∃ ps, patS m [] (k : Int) = ps := ⟨_, rfl⟩
      have hpl : ps.length ≤ 1024 := by rw [← hps]; exact hPat.out
      have hfl : (ps.filter (lsB m s)).length ≤ 1024 := Nat.le_trans (List.length_filter_le _ _) hpl
      have HSU : Hid (lbK m s (k + 1) = lbK m s k ++ ps.filter (lsB m s)) := by show _ = _; rw [lbK_succ]; unfold lsP; rw [hps]
      have HPO : Hid (∀ l ∈ ps, okP m l = true) := fun l hl => by rw [← hps] at hl; exact ((mem_patS HOK.out).1 hl).1
      have HC1 : Hid (Calls Try.prog 144 #[.slice a m.length c, .int .i64 (k : Int)] wr.drew (NewP wr.drew ps)) := by
        rw [← hps]; exact i_patternsOf HOK.out ((HMW.out wr hq0).below ((Below.refl wr.heap.size wr).drew) (by have := HWs.out; omega)) (by have := HWs.out; simp; omega) (by omega) hkm
      have HC2 : Hid (∀ w2 v2, Below wr.heap.size wr w2 → OwnP w2 wr.heap.size v2 ps → Calls Try.prog 192 #[v2, .func (.func 193) #[.agg #[.slice a m.length c, .slice va s.length vc]] #[]] w2 (NewP w2 (ps.filter (lsB m s)))) := fun w2 v2 hb hop => by
        refine i_keptLst (B := wr.heap.size) _ _ hop (Below.refl _ _) (by omega) fun l hl w' hb' => ?_
        have hz2 := hb.size
        exact HLS.out w' (hq0.trans ((hb.trans (hb'.mono hz2)).mono hz)) l (HPO.out l hl)
      have HSW : Hid (∀ w', Below wr.heap.size wr w' → w'.cell? ⟨w3.heap.size, 0, none⟩ = some (.slice a m.length c) ∧ w'.cell? ⟨w3.heap.size, 1, none⟩ = some (.slice va s.length vc)) := fun w' hb => HS.out w' (hq0.trans (hb.mono hz))
      have HOWN := Lib.hid hown
      have HLT := Lib.hid hown.lt
      clear hown hps hkm
      go_wp2_with fail
      go_region_held3 (fun w' => w'.cell? ⟨w3.heap.size, 0, none⟩ = some (.slice a m.length c) ∧ w'.cell? ⟨w3.heap.size, 1, none⟩ = some (.slice va s.length vc))
        (first | exact HS.out _ hq5 | exact HSW.out _ (by first | exact hq3 | exact hq2 | exact hq1.drew | exact hq1) | go_keep) ((first
        | (go_at_call 144; refine HC1.out.mono ?_; rintro e w2 ⟨v2, rfl, ho2, hb2⟩; have hq2 : Below wr.heap.size wr w2 := hq1.drew.trans hb2; have hz2 := hq2.size)
        | (go_at_call 192; refine (HC2.out w2 v2 hq2 ho2).mono ?_; rintro e w4 ⟨v4, rfl, ho4, hb4⟩; have hq3 : Below wr.heap.size wr w4 := hq2.trans (hb4.mono hz2); have hz4 := hq3.size)
        | (refine step_appPP (by rfl) _ _ (by rfl) W.heap.size _ (lbK m s k) (by rfl) (HOWN.out.kept fun j hj _ => hq3.block j hj) _ _ (ps.filter (lsB m s)) (by rfl) ho4 (by omega) (by omega) ?_; intro v5 w5 hown5 hg5; have hq5 : Below W.heap.size W w5 := (hq0.trans (hq3.mono hz)).grown hg5 (by omega) (fun g hg => (HLT.out g hg).1); rw [← HSU.out] at hown5)))
      all_goals
        go_wp2
        go_roundw
        case rel => exact ⟨k + 1, by omega, by go_num, hown5, hq5⟩
        case measure => simp [intOf]; omega
    · obtain rfl : k = m.length + 1 := by omega
      have hLK := lbK_len (b := s) HOK.out (m.length + 1)
      have hkl := Nat.mul_le_mul_left 1024 (show m.length + 1 ≤ 6 by omega)
      go_wp2_with fail
      refine (i_listsOf hown hm5.1 hm5.2 (by omega) (fun l hl => lbK_row l hl)).mono ?_
      rintro e w5 ⟨a5, c5, rfl, h5, hb5⟩
      have hb03 := HB03.out.trans ((HBA.out.trans ((hq0.trans (hb5.mono hz)).mono (by have := HWs.out; omega))).mono (by omega))
      have hz5 := HB03.out.size
      have hw5 := HWs.out
      go_wp2
      go_ret
      rw [HLB.out]
      exact ⟨_, _, rfl, h5.wide (by omega) (Nat.le_refl _), hb03⟩

/- Walks: least bans, by the document's reference. -/
open Go.RowKit

theorem lsA_any {m : List Int} {b : List (List Int)} {r : List Int} {q : Nat} {x : Int} (h : r[q]? = some x) (hx : x = -1) : lsA m b r q = true := by unfold lsA; rw [at5_of h, hx]; rfl
theorem lsA_val {m : List Int} {b : List (List Int)} {r : List Int} {q : Nat} {x : Int} (h : r[q]? = some x) (hx : x ≠ -1) : lsA m b r q = hasP (alL m b) (r.set q (-1)) := by
  unfold lsA; rw [at5_of h, show (x == -1) = false by rw [beq_eq_false_iff_ne]; exact hx, Bool.false_or]
theorem rng_snoc {f : Nat → Bool} {q : Nat} : (List.range (q + 1)).all f = ((List.range q).all f && f q) := by rw [List.range_succ, List.all_append]; simp

/-- append of a row to rows of others: other blocks stay -/
theorem wpList_appXK {wr : World} {ops : Array Oper} {rest : List Oper} {o : Oper} {a : Act} {Q : Exit → Act → World → Prop} (hgd : o.guard = none) (s t : Operand)
    (ho : o.op = .call { callee := .builtin .append, args := #[s, t], argTypes := #[24, 24] }) (B lo hi : Nat) (v : Value) (mm : List (List Int)) (hs : a.eval s = v) (hown : OwnX wr B v mm) (hB : B ≤ wr.heap.size)
    (r : List Int) (a' : Option Addr) (n c' : Nat) (hn : n = r.length) (hr : RI wr lo hi a' r) (hcap : r.length ≤ c') (hlo : B ≤ lo) (hhi : hi ≤ wr.heap.size) (hoff : ∀ g, v.ownBlock = some g → g < lo ∨ hi ≤ g) (nw : Nat) (hx : a.eval t = .slice (some ⟨nw, 0, none⟩) 1 1) (hnw : nw = wr.heap.size) (hl : mm.length ≤ 1099511627776)
    (h : ∀ v' w', OwnX w' B v' (mm ++ [r]) → Below B wr w' → (∀ b, b < wr.heap.size → v.ownBlock ≠ some b → w'.heap[b]? = wr.heap[b]?) → Hid (v'.ownBlock = v.ownBlock ∨ v'.ownBlock = some (wr.heap.size + 1)) → wpList Try.prog ops Q rest (a.put o.dst v') w') : wpList Try.prog ops Q (o :: rest) a (wr.alloc (.cells #[.slice a' n c'] 23)) := by
  subst hnw hn
  have hlt0 := hown.lt
  obtain ⟨xs, h1, h2⟩ := hown
  have hxl : xs.length = mm.length := by have := h1.1; omega
  obtain ⟨i0, hi0, hz0, hz1, hz2⟩ := info_parts infoI
  have hbA := (Below.refl wr.heap.size wr).alloc (Nat.le_refl _) (.cells #[.slice a' r.length c'] 23)
  refine wpList_append_own_at _ hgd s t 24 ho B 23 i0 (.slice none 0 0) 1 24 undII hi0 hz0 hz1 hz2 rfl (by decide) v mm.length xs hs (World.ownsRow.alloc h1 _) ⟨wr.heap.size, 0, none⟩ 1 1 [.slice a' r.length c'] hx rfl (cell_one_new _ _ _) ?_ ?_ ?_ ?_ ?_
  · intro u hu; simp at hu; subst hu; rfl
  · unfold maxLen; omega
  · omega
  · simp; omega
  · intro v' w' g1 g2 g3 g4
    have hs2 := g2.size
    simp only [World.size_alloc] at hs2 g4
    have hBw : Below B wr w' := ((Below.refl B wr).alloc hB _).grown g2 (by simp; omega) fun k hk => (hlt0 k hk).1
    have hkeep : ∀ b, b < wr.heap.size → v.ownBlock ≠ some b → w'.heap[b]? = wr.heap[b]? := fun b hb hn => (g2.block b (by simp; omega) fun e => hn e.symm).trans (hbA.block b hb)
    have hnew : ∀ b, b < wr.heap.size → v.ownBlock ≠ some b → v'.ownBlock ≠ some b := fun b hb hn => by
      rcases g4 with g4 | g4
      · rw [g4]; exact hn
      · rw [g4]; intro e; cases e; omega
    refine h v' w' ⟨xs ++ [.slice a' r.length c'], by rw [List.length_append]; exact g1, fun k q e => ?_⟩ hBw hkeep g4
    rcases app_at e with ⟨hk, e⟩ | ⟨hk, e⟩
    · obtain ⟨a1, c1, e1, e2, e3⟩ := h2 k q e
      exact ⟨a1, c1, by rw [List.getElem?_append_left (by omega)]; exact e1, e2, e3.same fun b hb => ⟨⟨hb.1, by omega, hnew b hb.2.1 hb.2.2⟩, hkeep b hb.2.1 hb.2.2⟩⟩
    · have hk0 := lt_of_at e
      simp at hk0
      have hk1 : k = mm.length := by omega
      subst hk1
      obtain rfl : r = q := by simpa using e
      refine ⟨a', c', by rw [← hxl, List.getElem?_append_right (Nat.le_refl _)]; simp, hcap, RIp.ofRI (lo := lo) (hi := hi) ?_ fun b hb1 hb2 => ⟨by omega, by omega, ?_⟩⟩
      · exact hr.same fun b hb1 hb2 => hkeep b (by omega) fun e => by have := hoff b e; omega
      · exact hnew b (by omega) fun e => by have := hoff b e; omega
theorem Kp.keep {B lo hi : Nat} {w0 w w' : World} {v : Value} (h : Kp B lo hi w0 w) (hB : Below B w w') (hk : ∀ b, b < w.heap.size → v.ownBlock ≠ some b → w'.heap[b]? = w.heap[b]?) (ho : ∀ g, v.ownBlock = some g → g < lo ∨ hi ≤ g) : Kp B lo hi w0 w' :=
  h.trans ⟨hB.os, hB.tape, hB.output, hB.size, fun j hj hr => by
    rcases hr with hr | hr
    · exact hB.block j hr
    · exact hk j hj fun e => by have := ho j e; omega⟩
theorem setBelow {B : Nat} {w w1 : World} {p : Addr} {v : Value} (h : Below B w w1) (hp : B ≤ p.block) : Below B w (w1.setCell p v) :=
  ⟨h.os, h.tape, h.output, by simp [World.setCell]; exact h.size, fun k hk => (Below.heap_setCell _ _ _ _ (by omega)).trans (h.block k hk)⟩

set_option maxRecDepth 100000 in
set_option maxHeartbeats 4000000 in
theorem s_leastBans {m : List Int} {s : List (List Int)} {a a' : Option Addr} {c c' lo hi lo' hi' : Nat} {w : World} (hok : okM m = true) (hm : RI w lo hi a m) (hB : hi ≤ w.heap.size) (hs : RII w lo' hi' a' s) (hB' : hi' ≤ w.heap.size) (hsl : s.length ≤ 1048576) (hr : ∀ r ∈ s, r.length = m.length) :
    Calls Try.prog 196 #[.slice a m.length c, .slice a' s.length c'] w (GotII w (lbK m s (m.length + 1))) := by
  have hm5 := okM_len hok
  have HOK := Lib.hid hok; clear hok
  have HR := Lib.hid hr; clear hr
  have hbA := (Below.refl w.heap.size w).alloc (Nat.le_refl _) (.cells #[] 23)
  have hmA := hm.below hbA hB
  have hsA := hs.below hbA hB'
  have HAL := Lib.hid (alL_len2 (b := s) HOK.out)
  have HAR := Lib.hid (alL_row (m := m) (b := s))
  have HO0 : OwnX (w.alloc (.cells #[] 23)) w.heap.size (.slice (some ⟨w.heap.size, 0, none⟩) 0 0) [] := OwnX.made w w.heap.size (Nat.le_refl _)
  have HM0 := Lib.hid hm
  obtain ⟨AL, hAL⟩ : ∃ AL, alL m s = AL := ⟨_, rfl⟩
  have HAA := Lib.hid hAL
  go_enter Try.func196, Try.ntmps196
  go_wp2_with fail
  refine (s_allowedTests HOK.out hmA (by simp; omega) hsA (by simp; omega) hsl HR.out).mono ?_
  rintro e w0 ⟨a0, c0, rfl, h0, hb0⟩
  have hb00 : Below (w.heap.size + 1) (w.alloc (.cells #[] 23)) w0 := hb0.mono (by simp)
  have hs0 := hb0.size
  simp only [World.size_alloc] at hs0
  have hbW0 : Below w.heap.size w w0 := hbA.trans (hb00.mono (by omega))
  have HBW0 := Lib.hid hbW0
  have hal : RII w0 (w.heap.size + 1) w0.heap.size a0 AL := by have := h0.rii; rw [hAL] at this; exact this.wide (by simp) (Nat.le_refl _)
  have hX0 := HO0.below hb0
  rw [hAL] at HAL HAR ⊢
  have hall0 := HAL.out
  clear h0 hb0 hAL hmA hsA HO0 hm hs hb00 hbA hbW0
  go_wp2
  go_loopw [5, 7] (fun v i wr => ∃ (k : Nat) (al : Option Addr) (cl : Nat) (L : List (List Int)), k ≤ m.length + 1 ∧ i = .int .i64 k ∧ v = .slice al L.length cl ∧ OwnX wr w.heap.size (.slice al L.length cl) L ∧ Hid (L = lbK m s k) ∧ L.length ≤ 1024 * k ∧ Kp w.heap.size (w.heap.size + 1) w0.heap.size w0 wr ∧ Hid (∀ g, (Value.slice al L.length cl).ownBlock = some g → g < w.heap.size + 1 ∨ w0.heap.size ≤ g)) (fun _ i _ => m.length + 1 - (intOf i).toNat)
  case atStart => exact ⟨0, _, _, [], Nat.zero_le _, rfl, rfl, hX0, by simp [Hid, lbK], Nat.zero_le _, Kp.refl _ _ _ _, fun g hg => by cases hg; exact .inl (Nat.lt_succ_self _)⟩
  case round =>
    clear hX0
    obtain ⟨k, al, cl, L, hk, rfl, rfl, hX, hL, hLl, hK, hO⟩ := hrel
    obtain ⟨wo, rfl⟩ : ∃ x : World, x = wr := ⟨_, rfl⟩
    have hzk := hK.size
    have hkl := Nat.mul_le_mul_left 1024 hk
    by_cases hlt : (k : Int) ≤ m.length
    case neg =>
      have HE : Hid (L = lbK m s (m.length + 1)) := by show _ = _; rw [hL.out]; congr 1; omega
      have hbw := hK.below (by omega)
      obtain ⟨a4, c4, e4, hR4⟩ := hX.riic
      cases e4
      have hbF := HBW0.out.trans (hbw.mono (Nat.le_refl _))
      clear hX hbw
      go_wp2
      go_ret
      rw [← HE.out]
      exact ⟨_, _, rfl, hR4, hbF⟩
    case pos =>
    have hbwr : Below w.heap.size w wo := HBW0.out.trans ((hK.below (by omega)).mono (Nat.le_refl _))
    have hbB := (Below.refl wo.heap.size wo).alloc (Nat.le_refl _) (.cells #[] 3)
    have hm3 := (HM0.out.below hbwr hB).below hbB (by omega)
    have HRow := Lib.hid (patS_row (m := m) (t := (k : Int)))
    have HLN := Lib.hid (patS_len (head := []) HOK.out (k : Int))
    have HMP := Lib.hid (fun r => mem_patS (p := r) (t := (k : Int)) HOK.out)
    have halr := hal.kp hK (Nat.le_refl _)
    have HBWR := Lib.hid hbwr
    clear hbwr
    go_wp2_with fail
    refine (s_patterns HOK.out m.length [] a ⟨wo.heap.size, 0, none⟩ c 0 lo hi 0 0 _ (k : Int) (by simp) hm3 (by simp; omega) (RI.nil _ _ _ _) (by simp) (by omega) (by omega)).mono ?_
    rintro e w2 ⟨ad1, c1, rfl, h1, hb1⟩
    obtain ⟨ps, hps⟩ : ∃ ps, patS m [] (k : Int) = ps := ⟨_, rfl⟩
    have HPS : Hid (lbK m s (k + 1) = lbK m s k ++ ps.filter (lsB m s)) := by show _ = _; rw [lbK_succ]; unfold lsP; rw [hps]
    rw [hps] at h1 HRow HLN HMP ⊢
    clear hps
    have hb1a : Below wo.heap.size wo w2 := hbB.trans (hb1.mono (by simp))
    have hs2 := hb1a.size
    have hall : RII w2 wo.heap.size w2.heap.size (some ad1) ps := by have := h1.rii; simp only [World.size_alloc] at this; exact this.wide (by omega) (Nat.le_refl _)
    have hpl := HLN.out
    have hX2 := hX.below hb1a
    have hK2 := hK.trans (Kp.ofBelow hb1a)
    have hltX := hX.lt
    have HO2 : Hid (∀ g, (Value.slice al L.length cl).ownBlock = some g → g < wo.heap.size ∨ w2.heap.size ≤ g) := fun g hg => .inl (hltX g hg).2
    have HLK : Hid (L = lbK m s k ++ (ps.take 0).filter (lsB m s)) := by show _ = _; rw [hL.out]; simp
    clear h1 hb1 hbB hm3 hX hltX halr hb1a hK
    go_wp2
    go_loopw [5, 9] (fun v i wx => ∃ (j : Nat) (al : Option Addr) (cl : Nat) (L : List (List Int)), j ≤ ps.length ∧ i = .int .i64 j ∧ v = .slice al L.length cl ∧ OwnX wx w.heap.size (.slice al L.length cl) L ∧ Hid (L = lbK m s k ++ (ps.take j).filter (lsB m s)) ∧ L.length ≤ 1024 * k + j ∧ Kp w.heap.size (w.heap.size + 1) w0.heap.size w0 wx ∧ Kp w.heap.size wo.heap.size w2.heap.size w2 wx ∧ Hid (∀ g, (Value.slice al L.length cl).ownBlock = some g → g < w.heap.size + 1 ∨ w0.heap.size ≤ g) ∧ Hid (∀ g, (Value.slice al L.length cl).ownBlock = some g → g < wo.heap.size ∨ w2.heap.size ≤ g)) (fun _ i _ => ps.length - (intOf i).toNat)
    case atStart => exact ⟨0, _, _, L, Nat.zero_le _, rfl, rfl, hX2, HLK, by omega, hK2, Kp.refl _ _ _ _, hO, HO2⟩
    case round =>
      clear hX2 hK2 hO HO2 HLK hL hLl
      obtain ⟨j, al, cl, L, hj, rfl, rfl, hX, hL, hLl, hK, hKp, hO, hOp⟩ := hrel
      have hzj := hKp.size
      obtain ⟨wx, rfl⟩ : ∃ x : World, x = wr := ⟨_, rfl⟩
      by_cases hjt : j < ps.length
      case neg =>
        have hbw := hKp.size
        have HE : Hid (L = lbK m s (k + 1)) := by show _ = _; rw [hL.out, HPS.out, List.take_of_length_le (by omega)]
        go_wp2
        go_roundw
        case rel => exact ⟨k + 1, al, cl, L, by omega, by go_num, rfl, hX, HE, by omega, hK, hO⟩
        case measure => simp [intOf]; omega
      case pos =>
      obtain ⟨b, o, a2, c2, r, ha, hlb, hbh, hcell, hr1, hx, hcp⟩ := (hall.kp hKp (Nat.le_refl _)).atc hjt
      have hidx := idxII ha hjt c1
      have HRL := Lib.hid (HRow.out r (List.mem_of_getElem? hx.out))
      have hrl := HRL.out
      have hs3 := hal.kp hK (Nat.le_refl _)
      have H5 : Hid (∀ q ∈ AL, r.length ≤ q.length ∧ q.length ≤ 9223372036854775807) := by
        intro q hq
        have := HAR.out q hq
        omega
      obtain ⟨hp, hhp⟩ : ∃ x, hasP AL r = x := ⟨_, rfl⟩
      have HHP := Lib.hid hhp
      have HRLn := Lib.hid hrl
      clear ha hrl
      go_wp2_with fail
      refine (s_covers hs3 hr1 (by omega) H5.out).mono ?_
      rintro e w3 ⟨rfl, hd⟩
      rw [hhp]
      have hd : Dr wx w3 := hd
      have hb3 := Dr.below hd wx.heap.size
      have hcell3 : w3.cell? ⟨b, o + j, none⟩ = some (.slice a2 r.length c2) := (hb3.cell (p := ⟨b, o + j, none⟩) (by show b < _; omega)).trans hcell
      have hr3 := hr1.below hb3 (by omega)
      have hs4 := hs3.below hb3 (by have := hK.size; omega)
      have hzd := hb3.size
      have hX3 := hX.below hb3
      have hK3 := hK.trans (Kp.ofBelow hb3)
      have hKp3 := hKp.trans (Kp.ofBelow hb3)
      clear hcell hr1 hs3 hX hK hKp hd hb3 hhp
      go_wp2
      go_loopw [10, 11] (fun v i wi => ∃ (q : Nat) (x : Bool), q ≤ m.length ∧ i = .int .i64 q ∧ v = .bool x ∧ Hid (x = (!hp && (List.range q).all (lsA m s r))) ∧ Below w3.heap.size w3 wi) (fun _ i _ => m.length - (intOf i).toNat)
      case atStart => exact ⟨0, !hp, Nat.zero_le _, rfl, rfl, by simp [Hid], Below.refl _ _⟩
      case round =>
        obtain ⟨q, x, hq, rfl, rfl, hxq, hBq⟩ := hrel
        obtain ⟨wy, rfl⟩ : ∃ x : World, x = wr := ⟨_, rfl⟩
        have hzq := hBq.size
        by_cases hqt : q < m.length
        case neg =>
          have HXE : Hid (x = lsB m s r) := by
            show _ = _
            rw [hxq.out, show q = m.length by omega, ← HHP.out, ← HAA.out]
            rfl
          have hX4 := hX3.below hBq
          have hK4 := hK3.trans (Kp.ofBelow hBq)
          have hKp4 := hKp3.trans (Kp.ofBelow hBq)
          have hcell4 : wy.cell? ⟨b, o + j, none⟩ = some (.slice a2 r.length c2) := (hBq.cell (p := ⟨b, o + j, none⟩) (by show b < _; omega)).trans hcell3
          have hr4 := hr3.below hBq (by omega)
          clear hX3 hK3 hKp3 hcell3 hr3 hs4 hxq
          cases x
          · have HM := Lib.hid (flt_skip (f := lsB m s) hx.out HXE.out.symm)
            have HLN2 : Hid (L = lbK m s k ++ (ps.take (j + 1)).filter (lsB m s)) := by show _ = _; rw [HM.out]; exact hL.out
            go_wp2
            go_roundw
            case rel => exact ⟨j + 1, al, cl, L, by omega, by go_num, rfl, hX4, HLN2, by omega, hK4, hKp4, hO, hOp⟩
            case measure => simp [intOf]; omega
          · have HM := Lib.hid (flt_step (f := lsB m s) hx.out HXE.out.symm)
            go_wp2_with (first
              | (at_builtin; refine wpList_appXK rfl (.tmp 70) (.tmp 75) rfl w.heap.size wo.heap.size w2.heap.size _ L rfl hX4 (by omega) r a2 r.length c2 rfl hr4 hcp (by omega) (by omega) hOp.out wy.heap.size rfl rfl (by omega) ?_; intro v8 w8 hown8 hb8 hkp8 hnew8; obtain ⟨a8, c8, hv8, _⟩ := hown8.riic; subst hv8)
              | go_in)
            have hz8 := hb8.size
            have HLN2 : Hid (L ++ [r] = lbK m s k ++ (ps.take (j + 1)).filter (lsB m s)) := by show _ = _; rw [HM.out, hL.out, List.append_assoc]
            have hK8 := hK4.keep hb8 hkp8 hO.out
            have hKp8 := hKp4.keep hb8 hkp8 hOp.out
            have HO8 : Hid (∀ g, (Value.slice a8 (L ++ [r]).length c8).ownBlock = some g → g < w.heap.size + 1 ∨ w0.heap.size ≤ g) := fun g hg => by
              rcases hnew8.out with h9 | h9
              · rw [h9] at hg; exact hO.out g hg
              · rw [h9] at hg; cases hg; omega
            have HOp8 : Hid (∀ g, (Value.slice a8 (L ++ [r]).length c8).ownBlock = some g → g < wo.heap.size ∨ w2.heap.size ≤ g) := fun g hg => by
              rcases hnew8.out with h9 | h9
              · rw [h9] at hg; exact hOp.out g hg
              · rw [h9] at hg; cases hg; omega
            clear hX4 hK4 hKp4 hb8 hkp8 hnew8 hO hOp hr4
            go_roundw
            case rel => exact ⟨j + 1, a8, c8, L ++ [r], by omega, by go_num, by simp, hown8, HLN2, by simp; omega, hK8, hKp8, HO8, HOp8⟩
            case measure => simp [intOf]; omega
        case pos =>
        have hr5 := hr3.below hBq (by omega)
        obtain ⟨b3, o3, u, ha3, _, hb3h, hcu, hu⟩ := hr5.at (show q < r.length by have := HRLn.out; omega)
        have hidq0 := idxI ha3 (show q < r.length by have := HRLn.out; omega) c2
        have hstr := OwnL.made wy wy.heap.size (Nat.le_refl _)
        have hbA := (Below.refl wy.heap.size wy).alloc (Nat.le_refl _) (.cells #[] 3)
        have hrA := hr5.below hbA (by omega)
        have hcell5 : wy.cell? ⟨b, o + j, none⟩ = some (.slice a2 r.length c2) := (hBq.cell (p := ⟨b, o + j, none⟩) (by show b < _; omega)).trans hcell3
        have hbl : b < wy.heap.size := by omega
        have hcellA : (wy.alloc (.cells #[] 3)).cell? ⟨b, o + j, none⟩ = some (.slice a2 r.length c2) := (hbA.cell (p := ⟨b, o + j, none⟩) (by show b < _; omega)).trans hcell5
        have hqr : q < r.length := by have := HRLn.out; omega
        have hrl5 : r.length ≤ 5 := by have := HRLn.out; omega
        have hs5 := hs4.below hBq (by omega)
        have hb3l : b3 < wy.heap.size := by omega
        clear ha3 hr5 hbA hs4
        by_cases hany : u = -1
        · have HLA : Hid (x = (!hp && (List.range (q + 1)).all (lsA m s r))) := by show _ = _; rw [rng_snoc, lsA_any hu.out hany, Bool.and_true]; exact hxq.out
          subst hany
          clear hxq
          go_wp2_with (at_builtin; refine wpList_appA rfl (.tmp 46) (.tmp 50) rfl wy.heap.size _ [] rfl hstr r _ _ c2 a2 rfl hrA (by simp) (by omega) (by simp) ?_; intro v6 w6 hown6 hb6; have hb06 := chain1 hb6; simp only [List.nil_append] at hown6; obtain ⟨qa, qc, rfl, hoi⟩ := hown6.slice; have hoo := hoi.oi; obtain ⟨qb, qo, rfl, hq1, hq2, ⟨qy, hqy, hqc⟩, hqf⟩ := hoo q hqr; have hidq := idxI (b := qb) (o := qo) rfl hqr qc; have hb07 := setBelow (p := ⟨qb, qo + q, none⟩) (v := .int .i64 (-1)) hb06 hq1; have hcell7 := (hb07.cell (p := ⟨b, o + j, none⟩) (by show b < _; omega)).trans hcell5; have hcu7 := (hb07.cell (p := ⟨b3, o3 + q, none⟩) (by show b3 < _; omega)).trans hcu; have hO2 := Lib.hid (hoo.set hqr (-1)); have HB07 := Lib.hid hb07; clear hown6 hb6 hoi hstr hrA hb06 hb07 hoo)
          have hBF := hBq.trans (HB07.out.mono hzq)
          clear hcell7 hcu7 hidq hqc hqf hidq0 hcu hcell5 hcellA
          go_roundw
          case rel => exact ⟨q + 1, x, by omega, by go_num, rfl, HLA, hBF⟩
          case measure => simp [intOf]; omega
        · have hc1 : (u == -1) = false := by rw [beq_eq_false_iff_ne]; exact hany
          have HLV := Lib.hid (lsA_val (m := m) (b := s) hu.out hany)
          have hc2 : decide (u = -1) = false := by rw [decide_eq_false_iff_not]; exact hany
          go_wp2_with (at_builtin; refine wpList_appA rfl (.tmp 46) (.tmp 50) rfl wy.heap.size _ [] rfl hstr r _ _ c2 a2 rfl hrA (by simp) (by omega) (by simp) ?_; intro v6 w6 hown6 hb6; have hb06 := chain1 hb6; simp only [List.nil_append] at hown6; obtain ⟨qa, qc, rfl, hoi⟩ := hown6.slice; have hoo := hoi.oi; obtain ⟨qb, qo, rfl, hq1, hq2, ⟨qy, hqy, hqc⟩, hqf⟩ := hoo q hqr; have hidq := idxI (b := qb) (o := qo) rfl hqr qc; have hb07 := setBelow (p := ⟨qb, qo + q, none⟩) (v := .int .i64 (-1)) hb06 hq1; have hcell7 := (hb07.cell (p := ⟨b, o + j, none⟩) (by show b < _; omega)).trans hcell5; have hcu7 := (hb07.cell (p := ⟨b3, o3 + q, none⟩) (by show b3 < _; omega)).trans hcu; have hO2 := Lib.hid (hoo.set hqr (-1)); have HB07 := Lib.hid hb07; clear hown6 hb6 hoi hstr hrA hb06 hb07 hoo)
          obtain ⟨w7, hw7⟩ : ∃ x, w6.setCell ⟨qb, qo + q, none⟩ (.int .i64 (-1)) = x := ⟨_, rfl⟩
          rw [hw7] at hcell7 hcu7 hO2 HB07 ⊢
          obtain ⟨l, hl⟩ : ∃ l, r.set q (-1) = l := ⟨_, rfl⟩
          have hll : l.length = r.length := by rw [← hl]; simp
          rw [hl] at hO2 HLV
          have HC : Hid (Calls Try.prog 154 #[.slice a0 AL.length c0, .slice (some ⟨qb, qo, none⟩) r.length qc] w7 (RO w7 (.bool (hasP AL l)))) := by
            have h := s_covers (c := qc) (c' := c0) (hs5.below HB07.out (by omega)) hO2.out.ri (by omega) (fun q hq => by have := H5.out q hq; omega)
            rw [hll] at h
            exact h
          obtain ⟨z, hz⟩ : ∃ z, hasP AL l = z := ⟨_, rfl⟩
          have HZ := Lib.hid hz
          rw [hz] at HC
          have HL2 : Hid (lsA m s r q = z) := by show _ = _; rw [HLV.out, HAA.out, hz]
          clear hw7 hl hll hz hidq hqc hqf hidq0 hcu hcell5 hcellA hcell7 hcu7
          refine HC.out.mono ?_
          rintro e w9 ⟨rfl, hd9⟩
          have hd9 : Dr w7 w9 := hd9
          have hBF := hBq.trans ((HB07.out.trans ((Dr.below hd9 w7.heap.size).mono (by have := HB07.out.size; omega))).mono hzq)
          clear HC hd9
          cases z
          · have HLA : Hid (false = (!hp && (List.range (q + 1)).all (lsA m s r))) := by show _ = _; rw [rng_snoc, HL2.out]; simp
            clear hxq
            go_wp2
            go_roundw
            case rel => exact ⟨q + 1, false, by omega, by go_num, rfl, HLA, hBF⟩
            case measure => simp [intOf]; omega
          · have HLA : Hid (x = (!hp && (List.range (q + 1)).all (lsA m s r))) := by show _ = _; rw [rng_snoc, HL2.out, Bool.and_true]; exact hxq.out
            clear hxq
            go_wp2
            go_roundw
            case rel => exact ⟨q + 1, x, by omega, by go_num, rfl, HLA, hBF⟩
            case measure => simp [intOf]; omega

end Go.Proofs.Ytehoagbpgahopaa
