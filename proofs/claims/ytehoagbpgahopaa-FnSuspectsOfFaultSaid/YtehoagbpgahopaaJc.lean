/- Walks: how tests went: results behind an interface, and slices of them. -/
import Derived.Test.YtehoagbpgahopaaVq
import Derived.Test.YtehoagbpgahopaaTd
import Derived.Handy
namespace Go.Proofs.Ytehoagbpgahopaa
open Go.RowKit

/-- how a test went, behind an interface -/
def rsW (P : Nat → Int) (y : Bool) : Value := .iface (bif y then 192 else 191) (.agg #[.int .i64 (P 0), .int .i64 (P 1), .int .i64 (P 2), .int .i64 (P 3), .int .i64 (P 4)])
theorem rsW_t (P : Nat → Int) : rsW P true = .iface 192 (.agg #[.int .i64 (P 0), .int .i64 (P 1), .int .i64 (P 2), .int .i64 (P 3), .int .i64 (P 4)]) := rfl
theorem rsW_f (P : Nat → Int) : rsW P false = .iface 191 (.agg #[.int .i64 (P 0), .int .i64 (P 1), .int .i64 (P 2), .int .i64 (P 3), .int .i64 (P 4)]) := rfl
theorem undRs : Try.prog.underlying 154 = some (.slice 158) := by kernel_rfl
theorem sizeRs (w : World) : (sizeOf 158).run Try.prog w = .ok 1 w := by kernel_rfl
theorem infoRs : (Try.prog.info? 158).map (fun i => (i.zero, i.size, i.bytes)) = some (some .nilIface, 1, 16) := by kernel_rfl

set_option maxHeartbeats 1000000 in
theorem i_resultOf (P : Nat → Int) (y : Bool) (w : World) : Calls Try.prog 217 #[.agg #[.int .i64 (P 0), .int .i64 (P 1), .int .i64 (P 2), .int .i64 (P 3), .int .i64 (P 4)], .bool y] w (NewV w (rsW P y)) := by
  have hb := (Below.refl w.heap.size w).alloc (Nat.le_refl _) (.cells #[.int .i64 (P 0), .int .i64 (P 1), .int .i64 (P 2), .int .i64 (P 3), .int .i64 (P 4)] 97)
  cases y
  all_goals
    go_enter Try.func217, Try.ntmps217
    go_wp2
    go_ret
    exact ⟨rfl, hb⟩

/-- the results of a list of tests, as cells -/
def resV (s : List (List Int)) (f : List Bool) : List Value := (s.zip f).map fun z => rsW (at5 z.1) z.2
theorem resV_snoc {s : List (List Int)} {f : List Bool} {k : Nat} {x : List Int} {y : Bool} (hx : s[k]? = some x) (hy : f[k]? = some y) : resV (s.take (k + 1)) (f.take (k + 1)) = resV (s.take k) (f.take k) ++ [rsW (at5 x) y] := by
  have h1 := lt_of_at hx
  have h2 := lt_of_at hy
  unfold resV
  rw [take_snoc hx, take_snoc hy, List.zip_append (by simp; omega), List.map_append]
  rfl
theorem resV_at {s : List (List Int)} {f : List Bool} {k : Nat} {x : List Int} {y : Bool} (hx : s[k]? = some x) (hy : f[k]? = some y) : (resV s f)[k]? = some (rsW (at5 x) y) := by
  unfold resV
  rw [List.getElem?_map, zip_at hx hy]; rfl
theorem resV_len {s : List (List Int)} {f : List Bool} (h : f.length = s.length) : (resV s f).length = s.length := by simp [resV, h]
/-- v owns, from block B on, n interface values l -/
def OwnRs (w : World) (B : Nat) (v : Value) (n : Nat) (l : List Value) : Prop := w.ownsRow B 158 1 v n l ∧ l.length = n
theorem OwnRs.nil (w : World) (B : Nat) : OwnRs w B (.slice none 0 0) 0 [] := ⟨World.ownsRow_nil _ _ _ _, rfl⟩
theorem OwnRs.lt {w : World} {B n : Nat} {v : Value} {l : List Value} (h : OwnRs w B v n l) : ∀ g, v.ownBlock = some g → B ≤ g ∧ g < w.heap.size := World.ownsRow.lt h.1
theorem OwnRs.kept {w w' : World} {B n : Nat} {v : Value} {l : List Value} (h : OwnRs w B v n l) (hb : ∀ k, k < w.heap.size → v.ownBlock = some k → w'.heap[k]? = w.heap[k]?) : OwnRs w' B v n l := by
  have hlt := h.lt
  obtain ⟨⟨h1, h2⟩, h0⟩ := h
  refine ⟨⟨h1, ?_⟩, h0⟩
  rcases h2 with h2 | ⟨g, cap, cur, rfl, hB, hg, rest⟩
  · exact .inl h2
  · exact .inr ⟨g, cap, cur, rfl, hB, by rw [hb g (hlt g rfl).2 rfl]; exact hg, rest⟩
theorem OwnRs.at {w : World} {B n : Nat} {v : Value} {l : List Value} (h : OwnRs w B v n l) : ∃ a c, v = .slice a n c ∧ ∀ (k : Nat) (u : Value), l[k]? = some u → ∃ g, B ≤ g ∧ g < w.heap.size ∧
    (∀ wx, (Instr.indexAt 154 (.slice a n c) (.int .i64 (k : Int))).run Try.prog wx = .ok (.pointer (some ⟨g, k, none⟩)) wx) ∧ w.cell? ⟨g, k, none⟩ = some u := by
  have hlt := h.lt
  have hn := h.2
  rcases h.1.2 with ⟨rfl, h0⟩ | ⟨g, cap, cur, rfl, hb, hg, hn', hm, hs, ht⟩
  · have e : l = [] := List.eq_nil_of_length_eq_zero (by omega)
    subst e; subst h0
    exact ⟨none, 0, rfl, by simp⟩
  · refine ⟨_, _, rfl, fun k u e => ⟨g, hb, (hlt g rfl).2, fun wx => ?_, ?_⟩⟩
    · have hk := lt_of_at e
      have h1 := sizeRs wx
      have hkn : k < n := by omega
      simp [Instr.indexAt, run_underlying undRs, asIntOf, hkn, Addr.add]
      try omega
    · rw [cell_of_row w g _ cur _ (0, 0) hg]
      have e2 := e
      rw [← ht, List.getElem?_take] at e2
      split at e2
      · simpa using e2
      · cases e2

/-- append of one result -/
theorem wpList_appRs {wr : World} {ops : Array Oper} {rest : List Oper} {o : Oper} {a : Act} {Q : Exit → Act → World → Prop} (hgd : o.guard = none) (s t : Operand)
    (ho : o.op = .call { callee := .builtin .append, args := #[s, t], argTypes := #[154, 154] }) (B n : Nat) (v : Value) (l : List Value) (hs : a.eval s = v) (hown : OwnRs wr B v n l) (x : Value)
    (nw : Nat) (hx : a.eval t = .slice (some ⟨nw, 0, none⟩) 1 1) (hnw : nw = wr.heap.size) (hxu : x.oneCell' = true) (hl : n ≤ 1099511627776) (hB : B ≤ wr.heap.size)
    (h : ∀ v' w', OwnRs w' B v' (n + 1) (l ++ [x]) → Below B wr w' → wpList Try.prog ops Q rest (a.put o.dst v') w') : wpList Try.prog ops Q (o :: rest) a (wr.alloc (.cells #[x] 158)) := by
  subst hnw
  obtain ⟨i0, hi, hz0, hz1, hz2⟩ := info_parts infoRs
  refine wpList_append_own _ hgd s t 154 ho B 158 i0 .nilIface 1 16 undRs hi hz0 hz1 hz2 rfl (by decide) v n l hs (World.ownsRow.alloc hown.1 _) ⟨wr.heap.size, 0, none⟩ 1 1 [x] hx rfl ?_ ?_ ?_ ?_ ?_ ?_
  · exact cell_one_new _ _ _
  · intro u hu
    have : u = x := by simpa using hu
    subst this; exact hxu
  · unfold maxLen; omega
  · omega
  · simp; omega
  · intro v' w' h1 h2 _
    refine h v' w' ⟨h1, by simp [hown.2]⟩ ?_
    refine (((Below.refl B wr).alloc hB _).grown h2 (by simp; omega) fun k hk => ?_)
    exact (hown.lt k hk).1

/-- append of one result at a step of a region that draws its order -/
theorem step_appRs {wr : World} {ops : Array Oper} {o : Oper} {a : Act} {K : Act → World → Prop} {Q : Exit → Act → World → Prop} {E : Prop} (hgd : o.guard = none) (s t : Operand)
    (ho : o.op = .call { callee := .builtin .append, args := #[s, t], argTypes := #[154, 154] }) (B n : Nat) (v : Value) (l : List Value) (hs : a.eval s = v) (hown : OwnRs wr B v n l) (x : Value)
    (nw : Nat) (hx : a.eval t = .slice (some ⟨nw, 0, none⟩) 1 1) (hnw : nw = wr.heap.size) (hxu : x.oneCell' = true) (hl : n ≤ 1099511627776) (hB : B ≤ wr.heap.size)
    (h : ∀ v' w', OwnRs w' B v' (n + 1) (l ++ [x]) → Below B wr w' → wr.grownBy w' v.ownBlock → K (a.put o.dst v') w') :
    if Region.wanted o (yielded ops a.tmps) = true then Oper.wp Try.prog o a (wr.alloc (.cells #[x] 158)) K Q else E := by
  subst hnw
  obtain ⟨i0, hi, hz0, hz1, hz2⟩ := info_parts infoRs
  have hw : Region.wanted o (yielded ops a.tmps) = true := by simp [Region.wanted, hgd]
  rw [if_pos hw]
  refine wp_append_own _ s t 154 ho B 158 i0 .nilIface 1 16 undRs hi hz0 hz1 hz2 rfl (by decide) v n l hs (World.ownsRow.alloc hown.1 _) ⟨wr.heap.size, 0, none⟩ 1 1 [x] hx rfl ?_ ?_ ?_ ?_ ?_ ?_
  · exact cell_one_new _ _ _
  · intro u hu
    have : u = x := by simpa using hu
    subst this; exact hxu
  · unfold maxLen; omega
  · omega
  · simp; omega
  · intro v' w' h1 h2 _
    refine h v' w' ⟨h1, by simp [hown.2]⟩ ?_ ((World.grownBy_alloc wr _ _).trans h2)
    refine (((Below.refl B wr).alloc hB _).grown h2 (by simp; omega) fun k hk => ?_)
    exact (hown.lt k hk).1
theorem i_resultOf_t (P : Nat → Int) (w : World) : Calls Try.prog 217 #[.agg #[.int .i64 (P 0), .int .i64 (P 1), .int .i64 (P 2), .int .i64 (P 3), .int .i64 (P 4)], .bool true] w (NewV w (.iface 192 (.agg #[.int .i64 (P 0), .int .i64 (P 1), .int .i64 (P 2), .int .i64 (P 3), .int .i64 (P 4)]))) := i_resultOf P true w
theorem i_resultOf_f (P : Nat → Int) (w : World) : Calls Try.prog 217 #[.agg #[.int .i64 (P 0), .int .i64 (P 1), .int .i64 (P 2), .int .i64 (P 3), .int .i64 (P 4)], .bool false] w (NewV w (.iface 191 (.agg #[.int .i64 (P 0), .int .i64 (P 1), .int .i64 (P 2), .int .i64 (P 3), .int .i64 (P 4)]))) := i_resultOf P false w
theorem rsW_one (P : Nat → Int) (y : Bool) : (rsW P y).oneCell' = true := by cases y <;> rfl

/-- a call that makes the results of tests, of its own -/
def NewRs (w : World) (s : List (List Int)) (f : List Bool) (e : Ending) (w' : World) : Prop := ∃ v, e = .returned v ∧ OwnRs w' w.heap.size v s.length (resV s f) ∧ Below w.heap.size w w'

set_option maxRecDepth 100000 in
set_option maxHeartbeats 4000000 in
theorem i_resultsOf {s : List (List Int)} {f : List Bool} {a a' : Option Addr} {c c' lo hi lo' hi' : Nat} {w : World} (hs : RII w lo hi a s) (hB : hi ≤ w.heap.size) (hf : RBo w lo' hi' a' f) (hB' : hi' ≤ w.heap.size) (hlen : f.length = s.length) (hl : s.length ≤ 1048576) (hr : ∀ r ∈ s, r.length ≤ 5) :
    Calls Try.prog 202 #[.slice a s.length c, .slice a' f.length c'] w (NewRs w s f) := by
  have HR := Lib.hid hr; clear hr
  obtain ⟨N, hN⟩ : ∃ N, s.length = N := ⟨_, rfl⟩
  have HN := Lib.hid hN
  have HF : Hid (f.length = N) := by show _ = _; omega
  have hNl : N ≤ 1048576 := by omega
  clear hN hlen
  go_enter Try.func202, Try.ntmps202
  go_wp2_with fail
  refine (i_patternsIn hs hB hl HR.out).mono ?_
  rintro e w1 ⟨v, rfl, ho, hb1⟩
  obtain ⟨av, cv, rfl, hat⟩ := ho.at
  have HAT := Lib.hid hat
  have hz1 := hb1.size
  have hf1 := hf.below hb1 hB'
  rw [HF.out]
  rw [HN.out] at HAT ⊢
  clear hat ho hs hl hf
  go_wp2
  go_loopw [5, 11] (fun v i wr => ∃ (k : Nat) (u : Value), k ≤ N ∧ i = .int .i64 k ∧ u = v ∧ OwnRs wr w1.heap.size u k (resV (s.take k) (f.take k)) ∧ Below w1.heap.size w1 wr) (fun _ i _ => N - (intOf i).toNat)
  case atStart => exact ⟨0, _, Nat.zero_le _, rfl, rfl, OwnRs.nil _ _, Below.refl _ _⟩
  case round =>
    obtain ⟨k, u, hk, rfl, rfl, hown, hB3⟩ := hrel
    have hz3 := hB3.size
    by_cases hlt : k < N
    · obtain ⟨x, hx⟩ := at_of_lt (show k < s.length by have := HN.out; omega)
      obtain ⟨g, hg1, hg2, hidx, hcs⟩ := HAT.out k x hx
      have HX := Lib.hid hx
      obtain ⟨b2, o2, y, ha2, hb2l, hb2h, hcell2, hy⟩ := (hf1.below hB3 (by omega)).at (show k < f.length by rw [HF.out]; exact hlt)
      have hidx2 := idxBo ha2 hlt c'
      have hc (j : Nat) (hj : j < 5) : wr.cell? ⟨g, k * 5 + j, none⟩ = some (.int .i64 (at5 x j)) := (hB3.cell (p := ⟨g, k * 5 + j, none⟩) hg2).trans (hcs j hj)
      have hc0 := hc 0 (by omega)
      have hc1 := hc 1 (by omega)
      have hc2 := hc 2 (by omega)
      have hc3' := hc 3 (by omega)
      have hc4 := hc 4 (by omega)
      simp only [Nat.add_zero] at hc0
      have hA := Lib.hid (heap_alloc_new wr (.cells #[.int .i64 (at5 x 0), .int .i64 (at5 x 1), .int .i64 (at5 x 2), .int .i64 (at5 x 3), .int .i64 (at5 x 4)] 97))
      have hbA := (Below.refl wr.heap.size wr).alloc (Nat.le_refl _) (.cells #[.int .i64 (at5 x 0), .int .i64 (at5 x 1), .int .i64 (at5 x 2), .int .i64 (at5 x 3), .int .i64 (at5 x 4)] 97)
      obtain ⟨W, hWe⟩ : ∃ W, wr.alloc (.cells #[.int .i64 (at5 x 0), .int .i64 (at5 x 1), .int .i64 (at5 x 2), .int .i64 (at5 x 3), .int .i64 (at5 x 4)] 97) = W := ⟨_, rfl⟩
      have hWs : W.heap.size = wr.heap.size + 1 := by rw [← hWe]; simp
      have hWl : wr.heap.size + 1 ≤ W.heap.size ∧ W.heap.size ≤ wr.heap.size + 1 := by omega
      rw [hWe] at hA hbA
      clear hWs
      have hlt' := hown.lt
      have HS : Hid (∀ w', Below W.heap.size W w' → (w'.cell? ⟨wr.heap.size, 0, none⟩ = some (.int .i64 (at5 x 0)) ∧ w'.cell? ⟨wr.heap.size, 1, none⟩ = some (.int .i64 (at5 x 1)) ∧ w'.cell? ⟨wr.heap.size, 2, none⟩ = some (.int .i64 (at5 x 2)) ∧ w'.cell? ⟨wr.heap.size, 3, none⟩ = some (.int .i64 (at5 x 3)) ∧ w'.cell? ⟨wr.heap.size, 4, none⟩ = some (.int .i64 (at5 x 4))) ∧ w'.cell? ⟨b2, o2 + k, none⟩ = some (.bool y)) := fun w' hb => by
        have h := (hb.block wr.heap.size (by omega)).trans hA.out
        have h2 : w'.cell? ⟨b2, o2 + k, none⟩ = wr.cell? ⟨b2, o2 + k, none⟩ := (hbA.trans (hb.mono (by omega))).cell (p := ⟨b2, o2 + k, none⟩) (by show b2 < _; omega)
        exact ⟨cells5 h, h2.trans hcell2⟩
      have hq1 : Below W.heap.size W W := Below.refl _ _
      have HOW : Hid (∀ w', Below W.heap.size W w' → OwnRs w' w1.heap.size _ k (resV (s.take k) (f.take k))) := fun w' hb => hown.kept fun j hj _ => (hb.block j (by omega)).trans (hbA.block j hj)
      have HS2 : Hid (∀ w5 w7, Below W.heap.size W w5 → w5.grownBy w7 u.ownBlock → (w7.cell? ⟨wr.heap.size, 0, none⟩ = some (.int .i64 (at5 x 0)) ∧ w7.cell? ⟨wr.heap.size, 1, none⟩ = some (.int .i64 (at5 x 1)) ∧ w7.cell? ⟨wr.heap.size, 2, none⟩ = some (.int .i64 (at5 x 2)) ∧ w7.cell? ⟨wr.heap.size, 3, none⟩ = some (.int .i64 (at5 x 3)) ∧ w7.cell? ⟨wr.heap.size, 4, none⟩ = some (.int .i64 (at5 x 4))) ∧ w7.cell? ⟨b2, o2 + k, none⟩ = some (.bool y)) := fun w5 w7 hb hg => by
        have hz5 := hb.size
        have h := (hg.block wr.heap.size (by omega) (fun e => by have := (hlt' _ e.symm).2; omega)).trans ((hb.block wr.heap.size (by omega)).trans hA.out)
        have h2 : w7.cell? ⟨b2, o2 + k, none⟩ = w5.cell? ⟨b2, o2 + k, none⟩ := World.cell?_of_block (w := w5) (hg.block b2 (by omega) (fun e => by have := (hlt' _ e.symm).1; omega))
        exact ⟨cells5 h, h2.trans (HS.out w5 hb).2⟩
      have HT : Hid (resV (s.take k) (f.take k) ++ [rsW (at5 x) y] = resV (s.take (k + 1)) (f.take (k + 1))) := (resV_snoc HX.out hy.out).symm
      clear ha2 hc hcs hown hcell2 hx hlt'
      cases y
      · go_wp2_with fail
        try rw [hWe]
        clear hWe
        go_region_held3 (fun w' => (w'.cell? ⟨wr.heap.size, 0, none⟩ = some (.int .i64 (at5 x 0)) ∧ w'.cell? ⟨wr.heap.size, 1, none⟩ = some (.int .i64 (at5 x 1)) ∧ w'.cell? ⟨wr.heap.size, 2, none⟩ = some (.int .i64 (at5 x 2)) ∧ w'.cell? ⟨wr.heap.size, 3, none⟩ = some (.int .i64 (at5 x 3)) ∧ w'.cell? ⟨wr.heap.size, 4, none⟩ = some (.int .i64 (at5 x 4))) ∧ w'.cell? ⟨b2, o2 + k, none⟩ = some (.bool false))
          (first | exact HS2.out _ _ hq5 hg7 | exact HS.out _ (by first | exact hq5 | exact hq1.drew | exact hq1) | go_keep) ((first
          | (go_at_call 217; refine (i_resultOf_f (at5 x) _).mono ?_; rintro e w5 ⟨rfl, hb5⟩; have hq5 : Below W.heap.size W w5 := (by first | exact hq1.drew.trans hb5 | exact hq1.trans hb5); have hown5 := HOW.out w5 hq5; have hz5 := hq5.size)
          | (refine step_appRs (by rfl) _ _ (by rfl) w1.heap.size k _ _ (by rfl) hown5 (.iface 191 (.agg #[.int .i64 (at5 x 0), .int .i64 (at5 x 1), .int .i64 (at5 x 2), .int .i64 (at5 x 3), .int .i64 (at5 x 4)])) _ (by rfl) (by rfl) (by rfl) (by omega) (by omega) ?_; intro v7 w7 hown7 hb7 hg7)
          | fail))
        all_goals
          rw [← rsW_f, HT.out] at hown7
          have hB7 : Below w1.heap.size w1 w7 := ((hB3.trans (hbA.mono (by omega))).trans (hq5.mono (by omega))).trans hb7
          clear hB3 hbA hq5 hb7
          go_wp2
          go_roundw
          case rel => exact ⟨k + 1, _, by omega, by go_num, rfl, hown7, hB7⟩
          case measure => simp [intOf]; omega
      · go_wp2_with fail
        try rw [hWe]
        clear hWe
        go_region_held3 (fun w' => (w'.cell? ⟨wr.heap.size, 0, none⟩ = some (.int .i64 (at5 x 0)) ∧ w'.cell? ⟨wr.heap.size, 1, none⟩ = some (.int .i64 (at5 x 1)) ∧ w'.cell? ⟨wr.heap.size, 2, none⟩ = some (.int .i64 (at5 x 2)) ∧ w'.cell? ⟨wr.heap.size, 3, none⟩ = some (.int .i64 (at5 x 3)) ∧ w'.cell? ⟨wr.heap.size, 4, none⟩ = some (.int .i64 (at5 x 4))) ∧ w'.cell? ⟨b2, o2 + k, none⟩ = some (.bool true))
          (first | exact HS2.out _ _ hq5 hg7 | exact HS.out _ (by first | exact hq5 | exact hq1.drew | exact hq1) | go_keep) ((first
          | (go_at_call 217; refine (i_resultOf_t (at5 x) _).mono ?_; rintro e w5 ⟨rfl, hb5⟩; have hq5 : Below W.heap.size W w5 := (by first | exact hq1.drew.trans hb5 | exact hq1.trans hb5); have hown5 := HOW.out w5 hq5; have hz5 := hq5.size)
          | (refine step_appRs (by rfl) _ _ (by rfl) w1.heap.size k _ _ (by rfl) hown5 (.iface 192 (.agg #[.int .i64 (at5 x 0), .int .i64 (at5 x 1), .int .i64 (at5 x 2), .int .i64 (at5 x 3), .int .i64 (at5 x 4)])) _ (by rfl) (by rfl) (by rfl) (by omega) (by omega) ?_; intro v7 w7 hown7 hb7 hg7)
          | fail))
        all_goals
          rw [← rsW_t, HT.out] at hown7
          have hB7 : Below w1.heap.size w1 w7 := ((hB3.trans (hbA.mono (by omega))).trans (hq5.mono (by omega))).trans hb7
          clear hB3 hbA hq5 hb7
          go_wp2
          go_roundw
          case rel => exact ⟨k + 1, _, by omega, by go_num, rfl, hown7, hB7⟩
          case measure => simp [intOf]; omega
    · have hkN : k = N := by omega
      have HK : Hid (resV (s.take k) (f.take k) = resV s f) := by show _ = _; rw [List.take_of_length_le (by have := HN.out; omega), List.take_of_length_le (by have := HF.out; omega)]
      rw [HK.out] at hown
      subst hkN
      go_wp2
      go_ret
      exact ⟨_, rfl, by rw [HN.out]; exact ⟨⟨hown.1.1, by rcases hown.1.2 with h | ⟨g, cap, cur, e1, e2, e3⟩; exact .inl h; exact .inr ⟨g, cap, cur, e1, by omega, e3⟩⟩, hown.2⟩, hb1.trans (hB3.mono (by omega))⟩

end Go.Proofs.Ytehoagbpgahopaa
