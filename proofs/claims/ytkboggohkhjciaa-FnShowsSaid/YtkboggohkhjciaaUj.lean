/- Walks: TurnRuns; rows that wait to be appended. -/
import Derived.Test.YtkboggohkhjciaaUb
import Derived.Test.YtkboggohkhjciaaUi
import Derived.Test.YtkboggohkhjciaaUf
import Derived.Test.YtkboggohkhjciaaWm
import Derived.Test.YtkboggohkhjciaaYl
namespace Go.Proofs.Ytkboggohkhjciaa
open Go Go.RowKit

theorem Fam.two {w : World} {lo hi p : Nat} {a1 a2 : Option Addr} {r1 r2 : List Int} (h1 : OI w p hi a1 r1) (h2 : OI w lo p a2 r2) (hp : lo ≤ p) (hp2 : p ≤ hi) :
    ∃ G, Fam w lo hi (fun k => if k = 0 then a1 else a2) G [r1, r2] := by
  obtain ⟨g1, e1, f1⟩ := h1.one
  obtain ⟨g2, e2, f2⟩ := h2.one
  have at2 : ∀ {k : Nat} {r : List Int}, [r1, r2][k]? = some r → (k = 0 ∧ r = r1) ∨ (k = 1 ∧ r = r2) := by
    intro k r h
    rcases k with _ | _ | k
    · left; simp at h; exact ⟨rfl, h.symm⟩
    · right; simp at h; exact ⟨rfl, h.symm⟩
    · simp at h
  refine ⟨fun k => if k = 0 then g1 else g2, ⟨fun k r e => ?_, fun k r e hr => ?_, fun j k r r' hjk e e' hr hr' => ?_⟩⟩
  · rcases at2 e with ⟨rfl, rfl⟩ | ⟨rfl, rfl⟩
    · exact f1
    · exact f2
  · rcases at2 e with ⟨rfl, rfl⟩ | ⟨rfl, rfl⟩
    · have := e1 hr; simp; omega
    · have := e2 hr; simp; omega
  · rcases at2 e with ⟨rfl, rfl⟩ | ⟨rfl, rfl⟩ <;> rcases at2 e' with ⟨rfl, rfl⟩ | ⟨rfl, rfl⟩
    · omega
    · have := e1 hr; have := e2 hr'; simp; omega
    · omega
    · omega

/-- v owns slices that read as mm, and beside them there lie rows that it does not hold yet -/
def OwnLP (w : World) (B : Nat) (v : Value) (mm : List (List Int)) (P : List (List Int × Option Addr)) : Prop :=
  ∃ (xs : List Value) (A : Nat → Option Addr) (C G : Nat → Nat), w.ownsRow B 29 1 v mm.length xs ∧ (∀ k r, mm[k]? = some r → xs[k]? = some (Value.slice (A k) r.length (C k)) ∧ r.length ≤ C k) ∧ Fam w B w.heap.size A G (mm ++ P.map (·.1)) ∧
    (∀ g, v.ownBlock = some g → ∀ k r, (mm ++ P.map (·.1))[k]? = some r → r ≠ [] → G k ≠ g) ∧ ∀ j p, P[j]? = some p → A (mm.length + j) = p.2
theorem OwnLP.of {wr W : World} {B p : Nat} {v : Value} {mm : List (List Int)} {a1 a2 : Option Addr} {r1 r2 : List Int} (hown : OwnLL wr B v mm) (hb : Below wr.heap.size wr W) (hB : B ≤ wr.heap.size) (h1 : OI W p W.heap.size a1 r1) (h2 : OI W wr.heap.size p a2 r2) (hp : wr.heap.size ≤ p) (hp2 : p ≤ W.heap.size) :
    OwnLP W B v mm [(r1, a1), (r2, a2)] := by
  have hlt0 := hown.lt
  obtain ⟨xs, A, C, G, g1, g2, g3, g4⟩ := hown
  have g1' : W.ownsRow B 29 1 v mm.length xs := World.ownsRow.kept g1 (row := none) ⟨hb.os, hb.tape, hb.output, hb.size, fun k hk _ => hb.block k hk⟩ (by cases v.ownBlock <;> simp)
  have g3' : Fam W B wr.heap.size A G mm := g3.same fun k r e he => hb.block _ (g3.rlo k r e he).2
  obtain ⟨G2, hf2⟩ := Fam.two h1 h2 hp hp2
  have hf := g3'.app hf2 hB hb.size
  refine ⟨xs, _, C, _, g1', fun k r e => ?_, hf, fun g hg k r e he => ?_, fun j q e => ?_⟩
  · rw [cat2_lt (lt_of_at e)]; exact g2 k r e
  · rcases app_at e with ⟨hk, e⟩ | ⟨hk, e⟩
    · rw [cat2_lt hk]; exact g4 g hg k r e he
    · rw [cat2_ge hk]
      have := (hlt0 g hg).2
      have := hf2.rlo _ r e he
      omega
  · rw [cat2_ge (by omega)]
    rcases j with _ | _ | j
    · simp at e; subst e; simp
    · simp at e; subst e; simp
    · simp at e
theorem OwnLP.done {w : World} {B : Nat} {v : Value} {mm : List (List Int)} (h : OwnLP w B v mm []) : OwnLL w B v mm := by
  obtain ⟨xs, A, C, G, g1, g2, g3, g4, _⟩ := h
  exact ⟨xs, A, C, G, g1, g2, by simpa using g3, by simpa using g4⟩
theorem run_appLP {W : World} (ty : TypeId) (B : Nat) (v : Value) (mm : List (List Int)) (r : List Int) (a1 : Option Addr) (P : List (List Int × Option Addr)) (hown : OwnLP W B v mm ((r, a1) :: P)) (hB : B ≤ W.heap.size) (n c : Nat) (hn : n = r.length) (hc : r.length ≤ c) (hl : mm.length ≤ 1099511627776) :
    ∃ v' w', (Builtin.append_ #[23, 23] ty #[v, .slice (some ⟨W.heap.size, 0, none⟩) 1 1]).run Try.prog (W.alloc (.cells #[.slice a1 n c] 29)) = .ok v' w' ∧ OwnLP w' B v' (mm ++ [r]) P ∧ Below B W w' := by
  subst hn
  have hb := (Below.refl W.heap.size W).alloc (Nat.le_refl _) (.cells #[.slice a1 r.length c] 29)
  obtain ⟨xs, A, C, G, h1, h2, h3, h4, h5⟩ := hown
  have hlt0 := World.ownsRow.lt h1
  have h1' := World.ownsRow.alloc h1 (.cells #[.slice a1 r.length c] 29)
  have hf : Fam (W.alloc (.cells #[.slice a1 r.length c] 29)) B W.heap.size A G (mm ++ ((r, a1) :: P).map (·.1)) := h3.same fun k r e he => hb.block _ (h3.rlo k r e he).2
  have hxl : xs.length = mm.length := by have := h1.1; omega
  have eL : mm ++ ((r, a1) :: P).map (·.1) = (mm ++ [r]) ++ P.map (·.1) := by simp
  obtain ⟨i0, hi, hz0, hz1, hz2⟩ := info_parts infoI
  obtain ⟨v', w', hr, g1, g2, g3, g4⟩ := run_append_own_at (P := Try.prog) (W.alloc (.cells #[.slice a1 r.length c] 29)) B 23 ty 29 i0 (.slice none 0 0) 1 24 undII hi hz0 hz1 hz2 rfl (by decide) v mm.length xs h1' ⟨W.heap.size, 0, none⟩ 1 1 [.slice a1 r.length c] rfl
    (fun j u hu => by
      have hj : j = 0 := by have := lt_of_at hu; simp at this; omega
      subst hj
      obtain rfl : Value.slice a1 r.length c = u := by simpa using hu
      have e6 : (⟨W.heap.size, 0, none⟩ : Addr).add 0 = ⟨W.heap.size, 0, none⟩ := by unfold Addr.add; split <;> simp_all
      rw [e6, cell_of_row _ W.heap.size 0 _ 29 (0, 0) (heap_alloc_new W _)]; rfl)
    (fun u hu => by
      obtain rfl : u = Value.slice a1 r.length c := by simpa using hu
      rfl)
    (by unfold maxLen; omega) (by omega) (by simp; omega)
  rw [eL] at hf h4
  have hf' : Fam w' B (W.alloc (.cells #[.slice a1 r.length c] 29)).heap.size A G ((mm ++ [r]) ++ P.map (·.1)) := (hf.wide (Nat.le_refl _) hb.size).same fun k r e he =>
    g2.block _ (by have := hf.rlo k r e he; simp; omega) fun hg => h4 _ hg.symm k r e he rfl
  have hA := h5 0 (r, a1) rfl
  simp only [Nat.add_zero] at hA
  refine ⟨v', w', hr, ⟨xs ++ [.slice a1 r.length c], A, fun k => if k = mm.length then c else C k, G, by rw [List.length_append]; exact g1, fun k r' e => ?_, hf'.wide (Nat.le_refl _) g2.size, fun g hg k r' e he => ?_, fun j p e => ?_⟩, ?_⟩
  · rcases app_at e with ⟨hk, e⟩ | ⟨hk, e⟩
    · rw [List.getElem?_append_left (by omega)]
      show _ ∧ _ ≤ (if k = mm.length then c else C k)
      have hkm : ¬ k = mm.length := by omega
      simp only [hkm, if_false]
      exact h2 k r' e
    · have hk0 : k = mm.length := by have := lt_of_at e; simp at this; omega
      subst hk0
      rw [Nat.sub_self] at e
      obtain rfl : r = r' := by simpa using e
      rw [List.getElem?_append_right (by omega), hxl, Nat.sub_self, hA]
      simpa using hc
  · rcases g4 with g4 | g4
    · exact h4 g (by rw [← g4]; exact hg) k r' e he
    · rw [g4] at hg
      have := hf.rlo k r' e he
      cases hg
      simp; omega
  · have := h5 (j + 1) p (by simpa using e)
    rw [← this, List.length_append, List.length_singleton, Nat.add_assoc, Nat.add_comm 1 j]
  · exact (((Below.refl B W).alloc hB _)).grown g2 (by simp; omega) fun k hk => (hlt0 k hk).1
theorem step_appLP {W : World} {ops : Array Oper} {o : Oper} {a : Act} {K : Act → World → Prop} {Q : Exit → Act → World → Prop} {E : Prop} (hgd : o.guard = none) (s t : Operand)
    (ho : o.op = .call { callee := .builtin .append, args := #[s, t], argTypes := #[23, 23] }) (B : Nat) (v : Value) (mm : List (List Int)) (hs : a.eval s = v) (r : List Int) (a1 : Option Addr) (P : List (List Int × Option Addr)) (hown : OwnLP W B v mm ((r, a1) :: P)) (hB : B ≤ W.heap.size) (n c : Nat) (hn : n = r.length) (hc : r.length ≤ c) (nw : Nat) (hx : a.eval t = .slice (some ⟨nw, 0, none⟩) 1 1) (hnw : nw = W.heap.size) (hl : mm.length ≤ 1099511627776)
    (h : ∀ v' w', OwnLP w' B v' (mm ++ [r]) P → Below B W w' → K (a.put o.dst v') w') : if Region.wanted o (yielded ops a.tmps) = true then Oper.wp Try.prog o a (W.alloc (.cells #[.slice a1 n c] 29)) K Q else E := by
  subst hnw
  have hw : Region.wanted o (yielded ops a.tmps) = true := by simp [Region.wanted, hgd]
  rw [if_pos hw]
  obtain ⟨v', w', hrn, h1, h2⟩ := run_appLP o.type B v mm r a1 P hown hB n c hn hc hl
  unfold Oper.wp execOp
  simp only [ho, resolve, invoke, builtin, Sem.run_bind, Sem.run_pure, Result.andThen_ok, List.map_toArray, List.map_cons, List.map_nil, hs, hx, hrn]
  exact h v' w' h1 h2

theorem run_appS5 {wr : World} (ty : TypeId) (B : Nat) (v : Value) (l : List Int) (hown : OwnL wr B v l) (k : List Int) (lo hi c : Nat) (ad : Addr) (hk : RI wr lo hi (some ad) k) (hl : l.length ≤ 1099511627776) (hkl : k.length ≤ 1099511627776) (hB : B ≤ wr.heap.size) :
    ∃ v' w', (Builtin.append_ #[29, 29] ty #[v, .slice (some ad) k.length c]).run Try.prog wr = .ok v' w' ∧ OwnL w' B v' (l ++ k) ∧ Below B wr w' := by
  obtain ⟨i0, hi0, hz0, hz1, hz2⟩ := info_parts infoInt
  obtain ⟨v', w', hr, g1, g2, _⟩ := run_append_own_at (P := Try.prog) wr B 29 ty 3 i0 (.int .i64 0) 1 8 undI hi0 hz0 hz1 hz2 rfl (by decide) v l.length (ints l) hown ad k.length c (ints k) (by rw [ints_len, Nat.mul_one])
    (fun j u hu => by
      simp only [ints, List.getElem?_map, Option.map_eq_some_iff] at hu
      obtain ⟨x, hx, rfl⟩ := hu
      obtain ⟨b', o', e1, _, _, x', e4, e5⟩ := hk j (lt_of_at hx)
      cases e1
      rw [hx] at e4
      cases e4
      rw [addrAddI]; exact e5)
    (ints_one k) (by unfold maxLen; omega) (by omega) hB
  exact ⟨v', w', hr, by unfold OwnL; rw [ints_app, List.length_append]; exact g1, (Below.refl B wr).grown g2 hB fun k hk => ((World.ownsRow.lt hown) k hk).1⟩
theorem step_appS5 {wr : World} {ops : Array Oper} {o : Oper} {a : Act} {K : Act → World → Prop} {Q : Exit → Act → World → Prop} {E : Prop} (hgd : o.guard = none) (s t : Operand)
    (ho : o.op = .call { callee := .builtin .append, args := #[s, t], argTypes := #[29, 29] }) (B : Nat) (v : Value) (l : List Int) (hs : a.eval s = v) (hown : OwnL wr B v l) (k : List Int) (lo hi c n : Nat) (ad : Addr) (hn : n = k.length)
    (hx : a.eval t = .slice (some ad) n c) (hk : RI wr lo hi (some ad) k) (hl : l.length ≤ 1099511627776) (hkl : k.length ≤ 1099511627776) (hB : B ≤ wr.heap.size)
    (h : ∀ v' w', OwnL w' B v' (l ++ k) → Below B wr w' → K (a.put o.dst v') w') : if Region.wanted o (yielded ops a.tmps) = true then Oper.wp Try.prog o a wr K Q else E := by
  subst hn
  have hw : Region.wanted o (yielded ops a.tmps) = true := by simp [Region.wanted, hgd]
  rw [if_pos hw]
  obtain ⟨v', w', hr, h1, h2⟩ := run_appS5 o.type B v l hown k lo hi c ad hk hl hkl hB
  unfold Oper.wp execOp
  simp only [ho, resolve, invoke, builtin, Sem.run_bind, Sem.run_pure, Result.andThen_ok, List.map_toArray, List.map_cons, List.map_nil, hs, hx, hr]
  exact h v' w' h1 h2

theorem wpList_appLP {W : World} {ops : Array Oper} {rest : List Oper} {o : Oper} {a : Act} {Q : Exit → Act → World → Prop} (hgd : o.guard = none) (s t : Operand)
    (ho : o.op = .call { callee := .builtin .append, args := #[s, t], argTypes := #[23, 23] }) (B : Nat) (v : Value) (mm : List (List Int)) (hs : a.eval s = v) (r : List Int) (a1 : Option Addr) (P : List (List Int × Option Addr)) (hown : OwnLP W B v mm ((r, a1) :: P)) (hB : B ≤ W.heap.size) (n c : Nat) (hn : n = r.length) (hc : r.length ≤ c) (nw : Nat) (hx : a.eval t = .slice (some ⟨nw, 0, none⟩) 1 1) (hnw : nw = W.heap.size) (hl : mm.length ≤ 1099511627776)
    (h : ∀ v' w', OwnLP w' B v' (mm ++ [r]) P → Below B W w' → wpList Try.prog ops Q rest (a.put o.dst v') w') : wpList Try.prog ops Q (o :: rest) a (W.alloc (.cells #[.slice a1 n c] 29)) := by
  subst hnw
  obtain ⟨v', w', hrn, h1, h2⟩ := run_appLP o.type B v mm r a1 P hown hB n c hn hc hl
  refine wpList_plain hgd fun K' hK' => ?_
  unfold Oper.wp execOp
  simp only [ho, resolve, invoke, builtin, Sem.run_bind, Sem.run_pure, Result.andThen_ok, List.map_toArray, List.map_cons, List.map_nil, hs, hx, hrn]
  exact hK' _ _ (h v' w' h1 h2)
theorem OII.two {w : World} {lo p t c1 c2 n1 n2 : Nat} {a1 a2 : Option Addr} {r1 r2 : List Int} (h1 : OI w p w.heap.size a1 r1) (h2 : OI w lo p a2 r2) (hp : lo ≤ p) (hp2 : p ≤ w.heap.size) (hn1 : n1 = r1.length) (hn2 : n2 = r2.length) (hc1 : r1.length ≤ c1) (hc2 : r2.length ≤ c2) :
    ∃ (A : Nat → Option Addr) (C G : Nat → Nat), Fam (w.alloc (.cells #[.slice a1 n1 c1, .slice a2 n2 c2] t)) lo (w.alloc (.cells #[.slice a1 n1 c1, .slice a2 n2 c2] t)).heap.size A G [r1, r2] ∧
      ∀ k r, [r1, r2][k]? = some r → (w.alloc (.cells #[.slice a1 n1 c1, .slice a2 n2 c2] t)).cell? ((⟨w.heap.size, 0, none⟩ : Addr).add k) = some (.slice (A k) r.length (C k)) ∧ r.length ≤ C k := by
  subst hn1 hn2
  have hb := (Below.refl w.heap.size w).alloc (Nat.le_refl _) (.cells #[.slice a1 r1.length c1, .slice a2 r2.length c2] t)
  obtain ⟨G, hf⟩ := Fam.two h1 h2 hp hp2
  refine ⟨_, fun k => if k = 0 then c1 else c2, G, (hf.same fun k r e he => hb.block _ (hf.rlo k r e he).2).wide (Nat.le_refl _) hb.size, fun k r e => ?_⟩
  rw [addrAddI, Nat.zero_add, cell_of_row _ w.heap.size k _ t (0, 0) (heap_alloc_new w _)]
  rcases k with _ | _ | k
  · simp at e; subst e; exact ⟨rfl, hc1⟩
  · simp at e; subst e; exact ⟨rfl, hc2⟩
  · simp at e

theorem tu_s {n : Int} {runs : List (List Int)} (h : okRs n runs = false) : tuL n runs = [] := tu_no (by unfold tuG; rw [h]; rfl)
theorem tu_big {n : Int} {runs : List (List Int)} (h : 10 < runs.length) : tuL n runs = [] := tu_no (by unfold tuG; rw [show decide (runs.length ≤ 10) = false from by simp; omega]; simp)
theorem tu_mk {n : Int} {runs : List (List Int)} (h : okRs n runs = true) (hl : runs.length ≤ 10) : tuL n runs = tuA runs := tu_yes (by unfold tuG; rw [h, show decide (runs.length ≤ 10) = true from by simp; omega]; rfl)
theorem tu_rows {n : Int} {runs : List (List Int)} (h : okRs n runs = true) {r : List Int} (hr : r ∈ runs) : (r.length : Int) = n ∧ r.length ≤ 5 ∧ r ≠ [] := by
  have h1 := okRs_row h hr
  have h2 := okRs_m h
  refine ⟨by omega, by omega, ?_⟩
  intro e; rw [e] at h1; simp at h1; omega
theorem makeLL (K : Nat) (hK : K ≤ 20) (wx : World) : (Instr.makeSlice 23 (.int .i64 0) (.int .i64 (K : Int))).run Try.prog wx = .ok (.slice (some ⟨wx.heap.size, 0, none⟩) 0 K) (wx.alloc (.cells (madeCells #[.slice none 0 0] K) 29)) := by
  obtain ⟨inf, hinf, hz, hsz, hby⟩ := info_parts infoI
  have h := run_makeSlice (P := Try.prog) (w := wx) 23 29 inf (.slice none 0 0) undII hinf hz .i64 .i64 0 (K : Int) (by omega) (by omega) (by rw [hsz]; omega) (by rw [hby]; omega) (by omega)
  simpa [hsz, Value.cells] using h

set_option maxRecDepth 100000 in
set_option maxHeartbeats 4000000 in
theorem i_TurnRuns {n : Int} {m : List (List Int)} {a : Option Addr} {c lo hi' : Nat} {w : World} (h0 : -9223372036854775808 ≤ n) (h1 : n ≤ 9223372036854775807) (hm : RII w lo hi' a m) (hl : m.length ≤ 9223372036854775807) (hg : ∀ r ∈ m, r.length ≤ 9223372036854775807) (hB : hi' ≤ w.heap.size) :
    Calls Try.prog 33 #[.int .i64 n, .slice a m.length c] w (NewII w (tuL n m)) := by
  have HG := Lib.hid hg; clear hg
  cases hv : okRs n m
  · have HV := Lib.hid hv; clear hv
    have HNO := Lib.hid (tu_s HV.out)
    go_enter Try.func33, Try.ntmps33
    go_wp2_with fail
    refine (i_ValidRuns h0 h1 hm hl HG.out hB).mono ?_
    rintro e w1 ⟨rfl, b1⟩
    rw [HV.out]
    go_wp2
    go_ret
    rw [HNO.out]
    exact ⟨none, 0, rfl, ⟨OII.nil _ _ _ _, by simp⟩, b1⟩
  have HV := Lib.hid hv
  have HROW : Hid (∀ r ∈ m, r.length ≤ 5 ∧ r ≠ []) := fun r hr => (tu_rows HV.out hr).2
  clear hv
  by_cases hlen : 10 < m.length
  · have HNO := Lib.hid (tu_big (n := n) hlen)
    go_enter Try.func33, Try.ntmps33
    go_wp2_with fail
    refine (i_ValidRuns h0 h1 hm hl HG.out hB).mono ?_
    rintro e w1 ⟨rfl, b1⟩
    rw [HV.out]
    go_wp2
    go_ret
    rw [HNO.out]
    exact ⟨none, 0, rfl, ⟨OII.nil _ _ _ _, by simp⟩, b1⟩
  have HYES := Lib.hid (tu_mk HV.out (by omega))
  obtain ⟨M, hM⟩ : ∃ M, m.length = M := ⟨_, rfl⟩
  have hM10 : M ≤ 10 := by omega
  have HM := Lib.hid hM
  have hVR := fun (wx : World) (hx : RII wx lo hi' a m) (hbx : hi' ≤ wx.heap.size) => i_ValidRuns (c := c) h0 h1 hx hl HG.out hbx
  rw [hM] at hVR ⊢
  have HVR := Lib.hid hVR
  obtain ⟨K, hK⟩ : ∃ K, 2 * M = K := ⟨_, rfl⟩
  have hw2 : IntKind.i64.wrap (2 * (M : Int)) = (K : Int) := by rw [IntWalk.i64_in _ (by omega)]; omega
  have hmk := makeLL K (by omega)
  have hK20 : K ≤ 20 := by omega
  clear hK
  clear hVR hM hlen hl
  go_enter Try.func33, Try.ntmps33
  go_wp2_with fail
  refine (HVR.out w hm hB).mono ?_
  rintro e w1 ⟨rfl, b1⟩
  rw [HV.out]
  have z1 := b1.size
  have hm1 := hm.below b1 hB
  have hst := OwnLL.room w1 w.heap.size K 29 rfl z1 (by unfold maxLen; omega)
  have hbst := b1.alloc z1 (.cells (madeCells #[.slice none 0 0] K) 29)
  clear hm b1 HVR
  go_wp2
  clear hmk hw2
  go_loopw [5, 24] (fun v i wr => ∃ k : Nat, k ≤ M ∧ i = .int .i64 k ∧ OwnLL wr w.heap.size v (tuA (m.take k)) ∧ Below w.heap.size w wr ∧ RII wr lo hi' a m) (fun _ i _ => M - (intOf i).toNat)
  case atStart => exact ⟨0, Nat.zero_le _, rfl, by simpa [tuA] using hst, hbst, hm1.below ((Below.refl w1.heap.size w1).alloc (Nat.le_refl _) _) (by omega)⟩
  case round =>
    clear hst hbst hm1
    obtain ⟨k, hk, rfl, hown, hd, hmr⟩ := hrel
    have hz := hd.size
    by_cases hlt : k < M
    · obtain ⟨b, o, a1, c1, r, ha, _, hbh, hcell, hr, hx⟩ := hmr.at (show k < m.length by have := HM.out; omega)
      have hidx := idxII ha hlt c
      have hrw := HROW.out r (List.mem_of_getElem? hx.out)
      have HRN := Lib.hid hrw.2
      have hr5 := hrw.1
      have HST := Lib.hid (tuA_step hx.out)
      have hpl : (tuA (m.take k)).length ≤ 1099511627776 := by rw [tuA_len, List.length_take]; omega
      obtain ⟨P, hP⟩ : ∃ P, tuA (m.take k) = P := ⟨_, rfl⟩
      rw [hP] at hown HST hpl
      obtain ⟨w0, hw0⟩ : ∃ w0, wr = w0 := ⟨_, rfl⟩
      subst hw0
      clear ha hx hrw hP
      go_wp2_with fail
      refine (x_CloneI hr (by omega) HRN.out (by omega)).mono ?_
      rintro e w2 ⟨a2, c2, rfl, h2, b2⟩
      have z2 := b2.size
      have hlr : 0 < r.length := by cases hh : r with | nil => exact absurd hh HRN.out | cons _ _ => simp
      obtain ⟨bb, ob, _, ha2, _, _, _⟩ := h2.oi.ri.at hlr
      subst ha2
      have hr2 := hr.below b2 (by omega)
      have hc2 := h2.cap
      have HREV := Lib.hid (x_ReverseI (c := c2) h2.oi (by omega) (Nat.le_refl _))
      clear h2 hcell hlr
      go_wp2_with fail
      refine HREV.out.mono ?_
      rintro e w3 ⟨rfl, h3, u3, e3⟩
      have hr3 := hr2.upd u3 (by omega) (.inl (by omega))
      have hb03 := b2.trans ((u3.below).mono (by omega))
      clear u3 b2 hr2 HREV
      go_wp2_with fail
      refine (x_CloneI hr3 (by omega) HRN.out (by omega)).mono ?_
      rintro e w4 ⟨a4, c4, rfl, h4, b4⟩
      have z4 := b4.size
      have h34 := h3.below b4 (by omega)
      have hb04 := hb03.trans (b4.mono (by omega))
      obtain ⟨rv, hrv⟩ : ∃ rv, r.reverse = rv := ⟨_, rfl⟩
      have HRV : Hid (r.length = rv.length) := by show _ = _; rw [← hrv, List.length_reverse]
      rw [hrv] at h34 HST
      have hcr : rv.length ≤ c2 := by have := HRV.out; omega
      obtain ⟨A3, C3, G3, hf3, hc3⟩ := OII.two (t := 29) (h4.oi) (h34.wide (Nat.le_refl _) (show w2.heap.size ≤ w3.heap.size by omega)) (by omega) (by omega) rfl HRV.out h4.cap hcr
      have hb05 := hb04.alloc (by omega) (.cells #[.slice a4 r.length c4, .slice (some ⟨bb, ob, none⟩) r.length c2] 29)
      clear h4 h34 h3 b4 hb03 hr3 hrv
      go_wp2_with (first
        | (at_builtin; refine wpList_appLL (W0 := wr) rfl _ _ rfl w.heap.size _ P [r, rv] rfl hown hb05 (by omega) ⟨w4.heap.size, 0, none⟩ 2 2 rfl rfl A3 C3 G3 hf3 hc3 hpl (by simp) ?_; intro v6 w6 hown6 hb6 hnn6)
        | go_in)
      rw [← HST.out] at hown6
      have hd6 := (hd.trans (hb05.mono (by omega))).trans hb6
      have hmr6 := (hmr.below hb05 (by omega)).below hb6 (by omega)
      clear hown hb05 hb6 hf3 hc3 hnn6 hd hmr
      go_roundw
      case rel => exact ⟨k + 1, by omega, by go_num, hown6, hd6, hmr6⟩
      case measure => simp [intOf]; omega
    · have HKE : Hid (m.take k = m) := List.take_of_length_le (by have := HM.out; omega)
      rw [HKE.out] at hown
      obtain ⟨a5, c5, rfl, h5⟩ := hown.slice
      have HYL : Hid (tuL n m = tuA m) := HYES
      go_wp2
      go_ret
      rw [HYL.out]
      exact ⟨_, _, rfl, h5, hd⟩

/-- .. a slice of slices of its own, which may be appended to -/
def NewO (w : World) (mm : List (List Int)) (e : Ending) (w' : World) : Prop := ∃ a c, e = .returned (.slice a mm.length c) ∧ OwnLL w' w.heap.size (.slice a mm.length c) mm ∧ Below w.heap.size w w'
theorem NewO.newII {w : World} {mm : List (List Int)} {e : Ending} {w' : World} (h : NewO w mm e w') : NewII w mm e w' := by
  obtain ⟨a, c, rfl, h1, h2⟩ := h
  obtain ⟨a', c', e, h3⟩ := h1.slice
  cases e
  exact ⟨_, _, rfl, h3, h2⟩

set_option maxRecDepth 100000 in
set_option maxHeartbeats 4000000 in
theorem s_TurnRunsX {n : Int} {m : List (List Int)} {a : Option Addr} {c lo hi' : Nat} {w : World} (h0 : -9223372036854775808 ≤ n) (h1 : n ≤ 9223372036854775807) (hm : RII w lo hi' a m) (hl : m.length ≤ 9223372036854775807) (hg : ∀ r ∈ m, r.length ≤ 9223372036854775807) (hB : hi' ≤ w.heap.size) :
    Calls Try.prog 34 #[.int .i64 n, .slice a m.length c] w (NewO w (tuL n m)) := by
  have HG := Lib.hid hg; clear hg
  cases hv : okRs n m
  · have HV := Lib.hid hv; clear hv
    have HNO := Lib.hid (tu_s HV.out)
    go_enter Try.func34, Try.ntmps34
    go_wp2_with fail
    refine (s_validRuns h0 h1 hm hl HG.out).mono ?_
    rintro e w1 ⟨rfl, d1⟩
    rw [HV.out]
    go_wp2
    go_ret
    rw [HNO.out]
    exact ⟨none, 0, rfl, OwnLL.nilv _ _, Dr.below d1 _⟩
  have HV := Lib.hid hv
  have HROW : Hid (∀ r ∈ m, (r.length : Int) = n ∧ r.length ≤ 5 ∧ r ≠ []) := fun r hr => tu_rows HV.out hr
  have hn5 : 1 ≤ n ∧ n ≤ 5 := by have := okRs_m hv; omega
  have hlr := (okRs_m hv).2.2.1
  clear hv
  by_cases hlen : 10 < m.length
  · have HNO := Lib.hid (tu_big (n := n) hlen)
    have hw2 : IntKind.i64.wrap (2 * (m.length : Int)) = 2 * (m.length : Int) := by rw [IntWalk.i64_in _ (by omega)]
    have hd2 : decide (20 < 2 * (m.length : Int)) = true := decide_eq_true (by omega)
    go_enter Try.func34, Try.ntmps34
    go_wp2_with fail
    refine (s_validRuns h0 h1 hm hl HG.out).mono ?_
    rintro e w1 ⟨rfl, d1⟩
    rw [HV.out]
    go_wp2
    go_ret
    rw [HNO.out]
    exact ⟨none, 0, rfl, OwnLL.nilv _ _, Dr.below d1 _⟩
  have HYES := Lib.hid (tu_mk HV.out (by omega))
  have hw2 : IntKind.i64.wrap (2 * (m.length : Int)) = 2 * (m.length : Int) := by rw [IntWalk.i64_in _ (by omega)]
  have hd2 : decide (20 < 2 * (m.length : Int)) = false := decide_eq_false (by omega)
  obtain ⟨N, rfl⟩ := Int.eq_ofNat_of_zero_le (show 0 ≤ n by omega)
  have hN5 : 1 ≤ N ∧ N ≤ 5 := by omega
  have hwn : IntKind.i64.wrap ((N : Int) - 1) = (N : Int) - 1 := by rw [IntWalk.i64_in _ (by omega)]
  clear hn5
  go_enter Try.func34, Try.ntmps34
  go_wp2_with fail
  refine (s_validRuns h0 h1 hm hl HG.out).mono ?_
  rintro e w1 ⟨rfl, d1⟩
  rw [HV.out]
  have d1 : Dr w w1 := d1
  have z1 := Dr.le d1
  have hst := OwnLL.made w1 w.heap.size z1.2
  have hb1 := Dr.below d1 w.heap.size
  have hbst := hb1.alloc z1.2 (.cells #[] 29)
  clear d1 h0 h1
  go_wp2
  clear hd2 hw2
  go_loopw [5, 6, 7, 8] (fun v i _ _ wr => ∃ k : Nat, k ≤ m.length ∧ i = .int .i64 k ∧ OwnLL wr w.heap.size v (tuA (m.take k)) ∧ Below w.heap.size w wr) (fun _ i _ _ _ => m.length - (intOf i).toNat)
  case atStart => exact ⟨0, Nat.zero_le _, rfl, by simpa [tuA] using hst, hbst⟩
  case round =>
    clear hst hbst hb1
    obtain ⟨k, hk, rfl, hown, hd⟩ := hrel
    have hz := hd.size
    by_cases hlt : k < m.length
    · obtain ⟨b, o, a1, c1, r, ha, _, hbh, hcell, hr, hx⟩ := (hm.below hd hB).at hlt
      have hidx := idxII ha hlt c
      have hrw := HROW.out r (List.mem_of_getElem? hx.out)
      have hrN : r.length = N := by omega
      have HRN := Lib.hid hrN
      have HST := Lib.hid (tuA_step hx.out)
      have hpl : (tuA (m.take k)).length ≤ 1099511627776 := by rw [tuA_len, List.length_take]; omega
      have hP20 : (tuA (m.take k)).length ≤ 20 := by rw [tuA_len, List.length_take]; omega
      obtain ⟨P, hP⟩ : ∃ P, tuA (m.take k) = P := ⟨_, rfl⟩
      rw [hP] at hown HST hpl hP20
      obtain ⟨wo, rfl⟩ : ∃ x : World, x = wr := ⟨_, rfl⟩
      obtain ⟨b1, o1, _, ha1, _, _, _⟩ := hr.at (show 0 < r.length by omega)
      subst ha1
      have hbs : b < wo.heap.size := by omega
      have hstb := OwnL.made wo wo.heap.size (Nat.le_refl _)
      have hbA := (Below.refl wo.heap.size wo).alloc (Nat.le_refl _) (.cells #[] 3)
      clear ha hx hrw hP hrN
      go_wp2
      go_loopw [7, 8] (fun u j wr => ∃ p : Nat, p ≤ N ∧ j = .int .i64 ((N : Int) - 1 - p) ∧ OwnL wr wo.heap.size u (r.reverse.take p) ∧ Below wo.heap.size wo wr ∧ wo.heap.size + 1 ≤ wr.heap.size) (fun _ j _ => (intOf j + 1).toNat)
      case atStart => exact ⟨0, Nat.zero_le _, by go_num, by simpa using hstb, hbA, by simp⟩
      case round =>
        clear hstb hbA
        obtain ⟨p, hp, rfl, hownb, hdb, hsz⟩ := hrel
        by_cases hpl2 : p < N
        · have hge : decide ((0 : Int) ≤ (N : Int) - 1 - p) = true := decide_eq_true (by omega)
          have hrq := hr.below hdb (by omega)
          have hcellq := (hdb.cell (p := ⟨b, o + k, none⟩) hbs).trans hcell
          obtain ⟨q, hq⟩ : ∃ q : Nat, N - 1 - p = q := ⟨_, rfl⟩
          have hqi : (N : Int) - 1 - p = (q : Int) := by omega
          have hqr : q < r.length := by have := HRN.out; omega
          obtain ⟨b3, o3, x, ha3, hb3lo, hb3, hcx, hx2⟩ := hrq.at hqr
          obtain ⟨rfl, rfl⟩ : b1 = b3 ∧ o1 = o3 := by simpa using ha3
          have hidx2 := idxI (a := some ⟨b1, o1, none⟩) rfl hqr c1
          have HRV : Hid (r.reverse.take (p + 1) = r.reverse.take p ++ [x]) := by
            show _ = _
            refine take_snoc ?_
            rw [List.getElem?_reverse (by have := HRN.out; omega)]
            have e : r.length - 1 - p = q := by have := HRN.out; omega
            rw [e]; exact hx2.out
          have hkl : (r.reverse.take p).length ≤ 1099511627776 := by simp; omega
          have hwj : IntKind.i64.wrap ((q : Int) - 1) = (N : Int) - 1 - ((p + 1 : Nat) : Int) := by rw [IntWalk.i64_in _ (by omega)]; omega
          have hb1s : b1 < wr.heap.size := by omega
          obtain ⟨l, hlq⟩ : ∃ l, r.reverse.take p = l := ⟨_, rfl⟩
          rw [hlq] at hownb HRV hkl
          rw [hqi] at hge
          have HQI := Lib.hid hqi
          rw [HQI.out]
          have hbs2 : b < wr.heap.size := by omega
          have hWs : wo.heap.size ≤ wr.heap.size := by omega
          clear hx2 ha3 hlq hqi hq hcell hrq hb3lo
          go_wp2_with (first
            | (at_builtin; refine wpList_app1 rfl (.tmp 33) (.tmp 41) rfl wo.heap.size _ l rfl hownb x rfl hkl hWs ?_; intro v9 w9 hown9 hb9)
            | go_in)
          rw [← HRV.out] at hown9
          have hdb9 := hdb.trans hb9
          have hz9 := hb9.size
          clear hownb hb9 hdb hge
          go_roundw
          case rel => exact ⟨p + 1, by omega, congrArg (Value.int .i64) (by omega), hown9, hdb9, by omega⟩
          case measure => have := HQI.out; simp [intOf]; omega
        · have hge : decide ((0 : Int) ≤ (N : Int) - 1 - p) = false := decide_eq_false (by omega)
          have HT : Hid (r.reverse.take p = r.reverse) := List.take_of_length_le (by rw [List.length_reverse]; have := HRN.out; omega)
          rw [HT.out] at hownb
          obtain ⟨rv, hrv⟩ : ∃ rv, r.reverse = rv := ⟨_, rfl⟩
          have hrvl : rv.length = r.length := by rw [← hrv, List.length_reverse]
          rw [hrv] at hownb HST
          have hr0 : 0 < rv.length := by have := HRN.out; omega
          have hr5 : rv.length ≤ 5 := by have := HRN.out; omega
          obtain ⟨a7, c7, rfl, ho7⟩ := hownb.slice
          have hrq := hr.below hdb (by omega)
          have hcellq := (hdb.cell (p := ⟨b, o + k, none⟩) hbs).trans hcell
          have hstr := OwnL.made wr wr.heap.size (Nat.le_refl _)
          have hhs := hrq.below ((Below.refl wr.heap.size wr).alloc (Nat.le_refl _) (.cells #[] 3)) (by omega)
          have hcellA := (((Below.refl wr.heap.size wr).alloc (Nat.le_refl _) (.cells #[] 3)).cell (p := ⟨b, o + k, none⟩) (show b < wr.heap.size by omega)).trans hcellq
          have hr6 : r.length ≤ 1099511627776 := by omega
          have HP2 : Hid (P ++ [r] ++ [rv] = tuA (m.take (k + 1))) := by show _ = _; rw [List.append_assoc, HST.out]; rfl
          have hpl1 : (P ++ [r]).length ≤ 1099511627776 := by rw [List.length_append]; have hq : P.length ≤ 20 := hP20; simp; omega
          clear hrv hcell hrvl
          go_wp2_with (first
            | (at_builtin; refine wpList_appS rfl (.tmp 44) (.tmp 48) rfl wr.heap.size _ [] rfl hstr r lo hi' c1 _ rfl hhs (by simp) hr6 (by simp) ?_; intro v8 w8 hown8 hb8; have hb08 := chain1 hb8; have hs08 := hb08.size; simp only [List.nil_append] at hown8; obtain ⟨a8, c8, rfl, ho8⟩ := hown8.slice; have h78 := ho7.oi.below hb08 (Nat.le_refl _); have hLP := OwnLP.of hown (hdb.trans (hb08.mono (by omega))) (by omega) ho8.oi h78 (by omega) hs08; have hB8 : w.heap.size ≤ w8.heap.size := (by omega); clear hb8)
            | (at_builtin; refine wpList_appLP rfl (.tmp 43) (.tmp 50) rfl w.heap.size _ P rfl r a8 [(rv, a7)] hLP hB8 r.length c8 rfl ho8.cap _ rfl rfl hpl ?_; intro v10 w10 hLP2 hb10; have hs10 := hb10.size; have hB10 : w.heap.size ≤ w10.heap.size := (by omega); clear hLP)
            | (at_builtin; refine wpList_appLP rfl (.tmp 51) (.tmp 53) rfl w.heap.size _ (P ++ [r]) rfl rv a7 [] hLP2 hB10 rv.length c7 rfl ho7.cap _ rfl rfl hpl1 ?_; intro v11 w11 hLP3 hb11)
            | go_in)
          have hO := hLP3.done
          rw [HP2.out] at hO
          have hd11 := ((hd.trans ((hdb.trans (hb08.mono (by omega))).mono hz)).trans hb10).trans hb11
          clear hLP3 hLP2 hb11 hb10 hb08 hd hdb hown hge
          go_roundw
          case rel => exact ⟨k + 1, by omega, by go_num, hO, hd11⟩
          case measure => simp [intOf]; omega
    · have HKE : Hid (m.take k = m) := List.take_of_length_le (by omega)
      rw [HKE.out] at hown
      obtain ⟨a5, c5, rfl, h5⟩ := hown.slice
      go_wp2
      go_ret
      rw [HYES.out]
      exact ⟨_, _, rfl, hown, hd⟩

theorem s_TurnRuns {n : Int} {m : List (List Int)} {a : Option Addr} {c lo hi' : Nat} {w : World} (h0 : -9223372036854775808 ≤ n) (h1 : n ≤ 9223372036854775807) (hm : RII w lo hi' a m) (hl : m.length ≤ 9223372036854775807) (hg : ∀ r ∈ m, r.length ≤ 9223372036854775807) (hB : hi' ≤ w.heap.size) :
    Calls Try.prog 34 #[.int .i64 n, .slice a m.length c] w (NewII w (tuL n m)) :=
  (s_TurnRunsX h0 h1 hm hl hg hB).mono fun _ _ h => h.newII

end Go.Proofs.Ytkboggohkhjciaa
