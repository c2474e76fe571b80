/- Walks: how tests went: results behind an interface, and slices of them. -/
import Derived.Test.YtehoagbpgahopaaVq
import Derived.Test.YtehoagbpgahopaaTd
import Derived.Handy
import Derived.Test.YtehoagbpgahopaaTb
import Derived.Test.YtehoagbpgahopaaZa
namespace Go.Proofs.Ytehoagbpgahopaa
open Go.RowKit

/-- how a test went, behind an interface -/
def rsW (P : Nat → Int) (y : Bool) : Value := .iface (bif y then 192 else 191) (.agg #[.int .i64 (P 0), .int .i64 (P 1), .int .i64 (P 2), .int .i64 (P 3), .int .i64 (P 4)])
theorem rsW_t (P : Nat → Int) : rsW P true = .iface 192 (.agg #[.int .i64 (P 0), .int .i64 (P 1), .int .i64 (P 2), .int .i64 (P 3), .int .i64 (P 4)]) := rfl
theorem rsW_f (P : Nat → Int) : rsW P false = .iface 191 (.agg #[.int .i64 (P 0), .int .i64 (P 1), .int .i64 (P 2), .int .i64 (P 3), .int .i64 (P 4)]) := rfl
theorem undRs : Try.prog.underlying 154 = some (.slice 158) := by kernel_rfl
theorem sizeRs (w : World) : (sizeOf 158).run Try.prog w = .ok 1 w := by kernel_rfl
theorem infoRs : (Try.prog.info? 158).map (fun i => (i.zero, i.size, i.bytes)) = some (some .nilIface, 1, 16) := by kernel_rfl

set_option maxHeartbeats 1000000 in
theorem i_resultOf (P : Nat → Int) (y : Bool) (w : World) : Calls Try.prog 217 #[.agg #[.int .i64 (P 0), .int .i64 (P 1), .int .i64 (P 2), .int .i64 (P 3), .int .i64 (P 4)], .bool y] w (NewV w (rsW P y)) := by
  have hb := (Below.refl w.heap.size w).alloc (Nat.le_refl _) (.cells #[.int .i64 (P 0), .int .i64 (P 1), .int .i64 (P 2), .int .i64 (P 3), .int .i64 (P 4)] 97)
  cases y
  all_goals
    go_enter Try.func217, Try.ntmps217
    go_wp2
    go_ret
    exact ⟨rfl, hb⟩

/-- the results of a list of tests, as cells -/
def resV (s : List (List Int)) (f : List Bool) : List Value := (s.zip f).map fun z => rsW (at5 z.1) z.2
theorem resV_snoc {s : List (List Int)} {f : List Bool} {k : Nat} {x : List Int} {y : Bool} (hx : s[k]? = some x) (hy : f[k]? = some y) : resV (s.take (k + 1)) (f.take (k + 1)) = resV (s.take k) (f.take k) ++ [rsW (at5 x) y] := by
  have h1 := lt_of_at hx
  have h2 := lt_of_at hy
  unfold resV
  rw [take_snoc hx, take_snoc hy, List.zip_append (by simp; omega), List.map_append]
  rfl
theorem resV_at {s : List (List Int)} {f : List Bool} {k : Nat} {x : List Int} {y : Bool} (hx : s[k]? = some x) (hy : f[k]? = some y) : (resV s f)[k]? = some (rsW (at5 x) y) := by
  unfold resV
  rw [List.getElem?_map, zip_at hx hy]; rfl
theorem resV_len {s : List (List Int)} {f : List Bool} (h : f.length = s.length) : (resV s f).length = s.length := by simp [resV, h]
/-- v owns, from block B on, n interface values l -/
def OwnRs (w : World) (B : Nat) (v : Value) (n : Nat) (l : List Value) : Prop := w.ownsRow B 158 1 v n l ∧ l.length = n
theorem OwnRs.nil (w : World) (B : Nat) : OwnRs w B (.slice none 0 0) 0 [] := ⟨World.ownsRow_nil _ _ _ _, rfl⟩
theorem OwnRs.lt {w : World} {B n : Nat} {v : Value} {l : List Value} (h : OwnRs w B v n l) : ∀ g, v.ownBlock = some g → B ≤ g ∧ g < w.heap.size := World.ownsRow.lt h.1
theorem OwnRs.kept {w w' : World} {B n : Nat} {v : Value} {l : List Value} (h : OwnRs w B v n l) (hb : ∀ k, k < w.heap.size → v.ownBlock = some k → w'.heap[k]? = w.heap[k]?) : OwnRs w' B v n l := by
  have hlt := h.lt
  obtain ⟨⟨h1, h2⟩, h0⟩ := h
  refine ⟨⟨h1, ?_⟩, h0⟩
  rcases h2 with h2 | ⟨g, cap, cur, rfl, hB, hg, rest⟩
  · exact .inl h2
  · exact .inr ⟨g, cap, cur, rfl, hB, by rw [hb g (hlt g rfl).2 rfl]; exact hg, rest⟩
theorem OwnRs.at {w : World} {B n : Nat} {v : Value} {l : List Value} (h : OwnRs w B v n l) : ∃ a c, v = .slice a n c ∧ ∀ (k : Nat) (u : Value), l[k]? = some u → ∃ g, B ≤ g ∧ g < w.heap.size ∧
    (∀ wx, (Instr.indexAt 154 (.slice a n c) (.int .i64 (k : Int))).run Try.prog wx = .ok (.pointer (some ⟨g, k, none⟩)) wx) ∧ w.cell? ⟨g, k, none⟩ = some u := by
  have hlt := h.lt
  have hn := h.2
  rcases h.1.2 with ⟨rfl, h0⟩ | ⟨g, cap, cur, rfl, hb, hg, hn', hm, hs, ht⟩
  · have e : l = [] := List.eq_nil_of_length_eq_zero (by omega)
    subst e; subst h0
    exact ⟨none, 0, rfl, by simp⟩
  · refine ⟨_, _, rfl, fun k u e => ⟨g, hb, (hlt g rfl).2, fun wx => ?_, ?_⟩⟩
    · have hk := lt_of_at e
      have h1 := sizeRs wx
      have hkn : k < n := by omega
      simp [Instr.indexAt, run_underlying undRs, asIntOf, hkn, Addr.add]
      try omega
    · rw [cell_of_row w g _ cur _ (0, 0) hg]
      have e2 := e
      rw [← ht, List.getElem?_take] at e2
      split at e2
      · simpa using e2
      · cases e2

/-- append of one result -/
theorem wpList_appRs {wr : World} {ops : Array Oper} {rest : List Oper} {o : Oper} {a : Act} {Q : Exit → Act → World → Prop} (hgd : o.guard = none) (s t : Operand)
    (ho : o.op = .call { callee := .builtin .append, args := #[s, t], argTypes := #[154, 154] }) (B n : Nat) (v : Value) (l : List Value) (hs : a.eval s = v) (hown : OwnRs wr B v n l) (x : Value)
    (nw : Nat) (hx : a.eval t = .slice (some ⟨nw, 0, none⟩) 1 1) (hnw : nw = wr.heap.size) (hxu : x.oneCell' = true) (hl : n ≤ 1099511627776) (hB : B ≤ wr.heap.size)
    (h : ∀ v' w', OwnRs w' B v' (n + 1) (l ++ [x]) → Below B wr w' → wpList Try.prog ops Q rest (a.put o.dst v') w') : wpList Try.prog ops Q (o :: rest) a (wr.alloc (.cells #[x] 158)) := by
  subst hnw
  obtain ⟨i0, hi, hz0, hz1, hz2⟩ := info_parts infoRs
  refine wpList_append_own _ hgd s t 154 ho B 158 i0 .nilIface 1 16 undRs hi hz0 hz1 hz2 rfl (by decide) v n l hs (World.ownsRow.alloc hown.1 _) ⟨wr.heap.size, 0, none⟩ 1 1 [x] hx rfl ?_ ?_ ?_ ?_ ?_ ?_
  · exact cell_one_new _ _ _
  · intro u hu
    have : u = x := by simpa using hu
    subst this; exact hxu
  · unfold maxLen; omega
  · omega
  · simp; omega
  · intro v' w' h1 h2 _
    refine h v' w' ⟨h1, by simp [hown.2]⟩ ?_
    refine (((Below.refl B wr).alloc hB _).grown h2 (by simp; omega) fun k hk => ?_)
    exact (hown.lt k hk).1

/-- append of one result at a step of a region that draws its order -/
theorem step_appRs {wr : World} {ops : Array Oper} {o : Oper} {a : Act} {K : Act → World → Prop} {Q : Exit → Act → World → Prop} {E : Prop} (hgd : o.guard = none) (s t : Operand)
    (ho : o.op = .call { callee := .builtin .append, args := #[s, t], argTypes := #[154, 154] }) (B n : Nat) (v : Value) (l : List Value) (hs : a.eval s = v) (hown : OwnRs wr B v n l) (x : Value)
    (nw : Nat) (hx : a.eval t = .slice (some ⟨nw, 0, none⟩) 1 1) (hnw : nw = wr.heap.size) (hxu : x.oneCell' = true) (hl : n ≤ 1099511627776) (hB : B ≤ wr.heap.size)
    (h : ∀ v' w', OwnRs w' B v' (n + 1) (l ++ [x]) → Below B wr w' → wr.grownBy w' v.ownBlock → K (a.put o.dst v') w') :
    if Region.wanted o (yielded ops a.tmps) = true then Oper.wp Try.prog o a (wr.alloc (.cells #[x] 158)) K Q else E := by
  subst hnw
  obtain ⟨i0, hi, hz0, hz1, hz2⟩ := info_parts infoRs
  have hw : Region.wanted o (yielded ops a.tmps) = true := by simp [Region.wanted, hgd]
  rw [if_pos hw]
  refine wp_append_own _ s t 154 ho B 158 i0 .nilIface 1 16 undRs hi hz0 hz1 hz2 rfl (by decide) v n l hs (World.ownsRow.alloc hown.1 _) ⟨wr.heap.size, 0, none⟩ 1 1 [x] hx rfl ?_ ?_ ?_ ?_ ?_ ?_
  · exact cell_one_new _ _ _
  · intro u hu
    have : u = x := by simpa using hu
    subst this; exact hxu
  · unfold maxLen; omega
  · omega
  · simp; omega
  · intro v' w' h1 h2 _
    refine h v' w' ⟨h1, by simp [hown.2]⟩ ?_ ((World.grownBy_alloc wr _ _).trans h2)
    refine (((Below.refl B wr).alloc hB _).grown h2 (by simp; omega) fun k hk => ?_)
    exact (hown.lt k hk).1
theorem i_resultOf_t (P : Nat → Int) (w : World) : Calls Try.prog 217 #[.agg #[.int .i64 (P 0), .int .i64 (P 1), .int .i64 (P 2), .int .i64 (P 3), .int .i64 (P 4)], .bool true] w (NewV w (.iface 192 (.agg #[.int .i64 (P 0), .int .i64 (P 1), .int .i64 (P 2), .int .i64 (P 3), .int .i64 (P 4)]))) := i_resultOf P true w
theorem i_resultOf_f (P : Nat → Int) (w : World) : Calls Try.prog 217 #[.agg #[.int .i64 (P 0), .int .i64 (P 1), .int .i64 (P 2), .int .i64 (P 3), .int .i64 (P 4)], .bool false] w (NewV w (.iface 191 (.agg #[.int .i64 (P 0), .int .i64 (P 1), .int .i64 (P 2), .int .i64 (P 3), .int .i64 (P 4)]))) := i_resultOf P false w
theorem rsW_one (P : Nat → Int) (y : Bool) : (rsW P y).oneCell' = true := by cases y <;> rfl

/-- a call that makes the results of tests, of its own -/
def NewRs (w : World) (s : List (List Int)) (f : List Bool) (e : Ending) (w' : World) : Prop := ∃ v, e = .returned v ∧ OwnRs w' w.heap.size v s.length (resV s f) ∧ Below w.heap.size w w'

set_option maxRecDepth 100000 in
set_option maxHeartbeats 4000000 in
theorem i_resultsOf {s : List (List Int)} {f : List Bool} {a a' : Option Addr} {c c' lo hi lo' hi' : Nat} {w : World} (hs : RII w lo hi a s) (hB : hi ≤ w.heap.size) (hf : RBo w lo' hi' a' f) (hB' : hi' ≤ w.heap.size) (hlen : f.length = s.length) (hl : s.length ≤ 1048576) (hr : ∀ r ∈ s, r.length ≤ 5) :
    Calls Try.prog 202 #[.slice a s.length c, .slice a' f.length c'] w (NewRs w s f) := by
  have HR := Lib.hid hr; clear hr
  obtain ⟨N, hN⟩ : ∃ N, s.length = N := ⟨_, rfl⟩
  have HN := Lib.hid hN
  have HF : Hid (f.length = N) := by show _ = _; omega
  have hNl : N ≤ 1048576 := by omega
  clear hN hlen
  go_enter Try.func202, Try.ntmps202
  go_wp2_with fail
  refine (i_patternsIn hs hB hl HR.out).mono ?_
  rintro e w1 ⟨v, rfl, ho, hb1⟩
  obtain ⟨av, cv, rfl, hat⟩ := ho.at
  have HAT := Lib.hid hat
  have hz1 := hb1.size
  have hf1 := hf.below hb1 hB'
  rw [HF.out]
  rw [HN.out] at HAT ⊢
  clear hat ho hs hl hf
  go_wp2
  go_loopw [5, 11] (fun v i wr => ∃ (k : Nat) (u : Value), k ≤ N ∧ i = .int .i64 k ∧ u = v ∧ OwnRs wr w1.heap.size u k (resV (s.take k) (f.take k)) ∧ Below w1.heap.size w1 wr) (fun _ i _ => N - (intOf i).toNat)
  case atStart => exact ⟨0, _, Nat.zero_le _, rfl, rfl, OwnRs.nil _ _, Below.refl _ _⟩
  case round =>
    obtain ⟨k, u, hk, rfl, rfl, hown, hB3⟩ := hrel
    have hz3 := hB3.size
    by_cases hlt : k < N
    · obtain ⟨x, hx⟩ := at_of_lt (show k < s.length by have := HN.out; omega)
      obtain ⟨g, hg1, hg2, hidx, hcs⟩ := HAT.out k x hx
      have HX := Lib.hid hx
      obtain ⟨b2, o2, y, ha2, hb2l, hb2h, hcell2, hy⟩ := (hf1.below hB3 (by omega)).at (show k < f.length by rw [HF.out]; exact hlt)
      have hidx2 := idxBo ha2 hlt c'
      have hc (j : Nat) (hj : j < 5) : wr.cell? ⟨g, k * 5 + j, none⟩ = some (.int .i64 (at5 x j)) := (hB3.cell (p := ⟨g, k * 5 + j, none⟩) hg2).trans (hcs j hj)
      have hc0 := hc 0 (by omega)
      have hc1 := hc 1 (by omega)
      have hc2 := hc 2 (by omega)
      have hc3' := hc 3 (by omega)
      have hc4 := hc 4 (by omega)
      simp only [Nat.add_zero] at hc0
      have hA := Lib.hid (heap_alloc_new wr (.cells #[.int .i64 (at5 x 0), .int .i64 (at5 x 1), .int .i64 (at5 x 2), .int .i64 (at5 x 3), .int .i64 (at5 x 4)] 97))
      have hbA := (Below.refl wr.heap.size wr).alloc (Nat.le_refl _) (.cells #[.int .i64 (at5 x 0), .int .i64 (at5 x 1), .int .i64 (at5 x 2), .int .i64 (at5 x 3), .int .i64 (at5 x 4)] 97)
      obtain ⟨W, hWe⟩ : ∃ W, wr.alloc (.cells #[.int .i64 (at5 x 0), .int .i64 (at5 x 1), .int .i64 (at5 x 2), .int .i64 (at5 x 3), .int .i64 (at5 x 4)] 97) = W := ⟨_, rfl⟩
      have hWs : W.heap.size = wr.heap.size + 1 := by rw [← hWe]; simp
      have hWl : wr.heap.size + 1 ≤ W.heap.size ∧ W.heap.size ≤ wr.heap.size + 1 := by omega
      rw [hWe] at hA hbA
      clear hWs
      have hlt' := hown.lt
      have HS : Hid (∀ w', Below W.heap.size W w' → (w'.cell? ⟨wr.heap.size, 0, none⟩ = some (.int .i64 (at5 x 0)) ∧ w'.cell? ⟨wr.heap.size, 1, none⟩ = some (.int .i64 (at5 x 1)) ∧ w'.cell? ⟨wr.heap.size, 2, none⟩ = some (.int .i64 (at5 x 2)) ∧ w'.cell? ⟨wr.heap.size, 3, none⟩ = some (.int .i64 (at5 x 3)) ∧ w'.cell? ⟨wr.heap.size, 4, none⟩ = some (.int .i64 (at5 x 4))) ∧ w'.cell? ⟨b2, o2 + k, none⟩ = some (.bool y)) := fun w' hb => by
        have h := (hb.block wr.heap.size (by omega)).trans hA.out
        have h2 : w'.cell? ⟨b2, o2 + k, none⟩ = wr.cell? ⟨b2, o2 + k, none⟩ := (hbA.trans (hb.mono (by omega))).cell (p := ⟨b2, o2 + k, none⟩) (by show b2 < _; omega)
        exact ⟨cells5 h, h2.trans hcell2⟩
      have hq1 : Below W.heap.size W W := Below.refl _ _
      have HOW : Hid (∀ w', Below W.heap.size W w' → OwnRs w' w1.heap.size _ k (resV (s.take k) (f.take k))) := fun w' hb => hown.kept fun j hj _ => (hb.block j (by omega)).trans (hbA.block j hj)
      have HS2 : Hid (∀ w5 w7, Below W.heap.size W w5 → w5.grownBy w7 u.ownBlock → (w7.cell? ⟨wr.heap.size, 0, none⟩ = some (.int .i64 (at5 x 0)) ∧ w7.cell? ⟨wr.heap.size, 1, none⟩ = some (.int .i64 (at5 x 1)) ∧ w7.cell? ⟨wr.heap.size, 2, none⟩ = some (.int .i64 (at5 x 2)) ∧ w7.cell? ⟨wr.heap.size, 3, none⟩ = some (.int .i64 (at5 x 3)) ∧ w7.cell? ⟨wr.heap.size, 4, none⟩ = some (.int .i64 (at5 x 4))) ∧ w7.cell? ⟨b2, o2 + k, none⟩ = some (.bool y)) := fun w5 w7 hb hg => by
        have hz5 := hb.size
        have h := (hg.block wr.heap.size (by omega) (fun e => by have := (hlt' _ e.symm).2; omega)).trans ((hb.block wr.heap.size (by omega)).trans hA.out)
        have h2 : w7.cell? ⟨b2, o2 + k, none⟩ = w5.cell? ⟨b2, o2 + k, none⟩ := World.cell?_of_block (w := w5) (hg.block b2 (by omega) (fun e => by have := (hlt' _ e.symm).1; omega))
        exact ⟨cells5 h, h2.trans (HS.out w5 hb).2⟩
      have HT : Hid (resV (s.take k) (f.take k) ++ [rsW (at5 x) y] = resV (s.take (k + 1)) (f.take (k + 1))) := (resV_snoc HX.out hy.out).symm
      clear ha2 hc hcs hown hcell2 hx hlt'
      cases y
      · go_wp2_with fail
        try rw [hWe]
        clear hWe
        go_region_held3 (fun w' => (w'.cell? ⟨wr.heap.size, 0, none⟩ = some (.int .i64 (at5 x 0)) ∧ w'.cell? ⟨wr.heap.size, 1, none⟩ = some (.int .i64 (at5 x 1)) ∧ w'.cell? ⟨wr.heap.size, 2, none⟩ = some (.int .i64 (at5 x 2)) ∧ w'.cell? ⟨wr.heap.size, 3, none⟩ = some (.int .i64 (at5 x 3)) ∧ w'.cell? ⟨wr.heap.size, 4, none⟩ = some (.int .i64 (at5 x 4))) ∧ w'.cell? ⟨b2, o2 + k, none⟩ = some (.bool false))
          (first | exact HS2.out _ _ hq5 hg7 | exact HS.out _ (by first | exact hq5 | exact hq1.drew | exact hq1) | go_keep) ((first
          | (go_at_call 217; refine (i_resultOf_f (at5 x) _).mono ?_; rintro e w5 ⟨rfl, hb5⟩; have hq5 : Below W.heap.size W w5 := (by first | exact hq1.drew.trans hb5 | exact hq1.trans hb5); have hown5 := HOW.out w5 hq5; have hz5 := hq5.size)
          | (refine step_appRs (by rfl) _ _ (by rfl) w1.heap.size k _ _ (by rfl) hown5 (.iface 191 (.agg #[.int .i64 (at5 x 0), .int .i64 (at5 x 1), .int .i64 (at5 x 2), .int .i64 (at5 x 3), .int .i64 (at5 x 4)])) _ (by rfl) (by rfl) (by rfl) (by omega) (by omega) ?_; intro v7 w7 hown7 hb7 hg7)
          | fail))
        all_goals
          rw [← rsW_f, HT.out] at hown7
          have hB7 : Below w1.heap.size w1 w7 := ((hB3.trans (hbA.mono (by omega))).trans (hq5.mono (by omega))).trans hb7
          clear hB3 hbA hq5 hb7
          go_wp2
          go_roundw
          case rel => exact ⟨k + 1, _, by omega, by go_num, rfl, hown7, hB7⟩
          case measure => simp [intOf]; omega
      · go_wp2_with fail
        try rw [hWe]
        clear hWe
        go_region_held3 (fun w' => (w'.cell? ⟨wr.heap.size, 0, none⟩ = some (.int .i64 (at5 x 0)) ∧ w'.cell? ⟨wr.heap.size, 1, none⟩ = some (.int .i64 (at5 x 1)) ∧ w'.cell? ⟨wr.heap.size, 2, none⟩ = some (.int .i64 (at5 x 2)) ∧ w'.cell? ⟨wr.heap.size, 3, none⟩ = some (.int .i64 (at5 x 3)) ∧ w'.cell? ⟨wr.heap.size, 4, none⟩ = some (.int .i64 (at5 x 4))) ∧ w'.cell? ⟨b2, o2 + k, none⟩ = some (.bool true))
          (first | exact HS2.out _ _ hq5 hg7 | exact HS.out _ (by first | exact hq5 | exact hq1.drew | exact hq1) | go_keep) ((first
          | (go_at_call 217; refine (i_resultOf_t (at5 x) _).mono ?_; rintro e w5 ⟨rfl, hb5⟩; have hq5 : Below W.heap.size W w5 := (by first | exact hq1.drew.trans hb5 | exact hq1.trans hb5); have hown5 := HOW.out w5 hq5; have hz5 := hq5.size)
          | (refine step_appRs (by rfl) _ _ (by rfl) w1.heap.size k _ _ (by rfl) hown5 (.iface 192 (.agg #[.int .i64 (at5 x 0), .int .i64 (at5 x 1), .int .i64 (at5 x 2), .int .i64 (at5 x 3), .int .i64 (at5 x 4)])) _ (by rfl) (by rfl) (by rfl) (by omega) (by omega) ?_; intro v7 w7 hown7 hb7 hg7)
          | fail))
        all_goals
          rw [← rsW_t, HT.out] at hown7
          have hB7 : Below w1.heap.size w1 w7 := ((hB3.trans (hbA.mono (by omega))).trans (hq5.mono (by omega))).trans hb7
          clear hB3 hbA hq5 hb7
          go_wp2
          go_roundw
          case rel => exact ⟨k + 1, _, by omega, by go_num, rfl, hown7, hB7⟩
          case measure => simp [intOf]; omega
    · have hkN : k = N := by omega
      have HK : Hid (resV (s.take k) (f.take k) = resV s f) := by show _ = _; rw [List.take_of_length_le (by have := HN.out; omega), List.take_of_length_le (by have := HF.out; omega)]
      rw [HK.out] at hown
      subst hkN
      go_wp2
      go_ret
      exact ⟨_, rfl, by rw [HN.out]; exact ⟨⟨hown.1.1, by rcases hown.1.2 with h | ⟨g, cap, cur, e1, e2, e3⟩; exact .inl h; exact .inr ⟨g, cap, cur, e1, by omega, e3⟩⟩, hown.2⟩, hb1.trans (hB3.mono (by omega))⟩

/- Walks: patterns that are kept: those that agree with a result, and those that are suspects. -/
open Go.RowKit

set_option maxHeartbeats 1000000 in
theorem i_agreesF (P Q : Nat → Int) (w : World) : Calls Try.prog 288 #[.agg #[.int .i64 (Q 0), .int .i64 (Q 1), .int .i64 (Q 2), .int .i64 (Q 3), .int .i64 (Q 4)], .agg #[.int .i64 (P 0), .int .i64 (P 1), .int .i64 (P 2), .int .i64 (P 3), .int .i64 (P 4)]] w (NewV w (.bool (meet5 P Q))) := by
  have hb := ((Below.refl w.heap.size w).alloc (Nat.le_refl _) (.cells #[.int .i64 (Q 0), .int .i64 (Q 1), .int .i64 (Q 2), .int .i64 (Q 3), .int .i64 (Q 4)] 192)).alloc (by simp) (.cells #[.int .i64 (P 0), .int .i64 (P 1), .int .i64 (P 2), .int .i64 (P 3), .int .i64 (P 4)] 97)
  go_enter Try.func288, Try.ntmps288
  go_wp2_with fail
  refine (i_meets P Q _).mono ?_
  rintro e w2 ⟨rfl, hb2⟩
  go_wp2
  go_ret
  exact ⟨rfl, hb.trans (hb2.mono (by simp; omega))⟩

set_option maxHeartbeats 1000000 in
theorem i_agreesP (P Q : Nat → Int) (w : World) : Calls Try.prog 287 #[.agg #[.int .i64 (Q 0), .int .i64 (Q 1), .int .i64 (Q 2), .int .i64 (Q 3), .int .i64 (Q 4)], .agg #[.int .i64 (P 0), .int .i64 (P 1), .int .i64 (P 2), .int .i64 (P 3), .int .i64 (P 4)]] w (NewV w (.bool (!meet5 P Q))) := by
  have hb := ((Below.refl w.heap.size w).alloc (Nat.le_refl _) (.cells #[.int .i64 (Q 0), .int .i64 (Q 1), .int .i64 (Q 2), .int .i64 (Q 3), .int .i64 (Q 4)] 191)).alloc (by simp) (.cells #[.int .i64 (P 0), .int .i64 (P 1), .int .i64 (P 2), .int .i64 (P 3), .int .i64 (P 4)] 97)
  go_enter Try.func287, Try.ntmps287
  go_wp2_with fail
  refine (i_meets P Q _).mono ?_
  rintro e w2 ⟨rfl, hb2⟩
  go_wp2
  go_ret
  exact ⟨rfl, hb.trans (hb2.mono (by simp; omega))⟩

set_option maxRecDepth 100000 in
set_option maxHeartbeats 2000000 in
theorem i_keptF {ps : List (List Int)} {v : Value} {B : Nat} {w0 w : World} (T : Nat → Int) (q : List Int → Bool) (ho : OwnP w0 B v ps) (hb0 : Below w0.heap.size w0 w) (hl : ps.length ≤ 1048576)
    (hcl : ∀ l ∈ ps, ∀ w', Below w.heap.size w w' → Calls Try.prog 288 #[.agg #[.int .i64 (T 0), .int .i64 (T 1), .int .i64 (T 2), .int .i64 (T 3), .int .i64 (T 4)], .agg #[.int .i64 (at5 l 0), .int .i64 (at5 l 1), .int .i64 (at5 l 2), .int .i64 (at5 l 3), .int .i64 (at5 l 4)]] w' (NewV w' (.bool (q l)))) :
    Calls Try.prog 192 #[v, .func (.method "loop.example/coveringtests/impl.agrees") #[.iface 192 (.agg #[.int .i64 (T 0), .int .i64 (T 1), .int .i64 (T 2), .int .i64 (T 3), .int .i64 (T 4)])] #[]] w (NewP w (ps.filter q)) := by
  obtain ⟨a, c, rfl, hat⟩ := ho.at
  have HAT := Lib.hid hat
  have HCL := Lib.hid hcl
  obtain ⟨M, hM⟩ : ∃ M, ps.length = M := ⟨_, rfl⟩
  have HNN := Lib.hid hM
  have hMl : M ≤ 1048576 := by omega
  have hs0 := hb0.size
  rw [hM]
  clear hat ho hM hl hcl
  go_enter Try.func192, Try.ntmps192
  go_wp2
  go_loopw [5, 10] (fun v i wr => ∃ k : Nat, k ≤ M ∧ i = .int .i64 k ∧ OwnP wr w.heap.size v ((ps.take k).filter q) ∧ Below w.heap.size w wr) (fun _ i _ => M - (intOf i).toNat)
  case atStart => exact ⟨0, Nat.zero_le _, rfl, OwnP.nil _ _, Below.refl _ _⟩
  case round =>
    obtain ⟨k, hk, rfl, hown, hB3⟩ := hrel
    have hz3 := hB3.size
    by_cases hlt : k < M
    · obtain ⟨l, hx⟩ := at_of_lt (show k < ps.length by have := HNN.out; omega)
      obtain ⟨g, hg1, hg2, hidx, hcs⟩ := HAT.out k l hx
      have HX := Lib.hid hx
      rw [HNN.out] at hidx
      have hBl3 : Below w0.heap.size w0 wr := hb0.trans (hB3.mono (by omega))
      have hc (j : Nat) (hj : j < 5) : wr.cell? ⟨g, k * 5 + j, none⟩ = some (.int .i64 (at5 l j)) := (hBl3.cell (p := ⟨g, k * 5 + j, none⟩) hg2).trans (hcs j hj)
      have hc0 := hc 0 (by omega)
      have hc1 := hc 1 (by omega)
      have hc2 := hc 2 (by omega)
      have hc3' := hc 3 (by omega)
      have hc4 := hc 4 (by omega)
      simp only [Nat.add_zero] at hc0
      clear hc hcs
      have hbA := (Below.refl wr.heap.size wr).alloc (Nat.le_refl _) (.cells #[.int .i64 (at5 l 0), .int .i64 (at5 l 1), .int .i64 (at5 l 2), .int .i64 (at5 l 3), .int .i64 (at5 l 4)] 97)
      have hml := flt_len q ps k
      have hln := HNN.out
      have hownA : OwnP (wr.alloc (.cells #[.int .i64 (at5 l 0), .int .i64 (at5 l 1), .int .i64 (at5 l 2), .int .i64 (at5 l 3), .int .i64 (at5 l 4)] 97)) w.heap.size _ ((ps.take k).filter q) := hown.kept fun j hj _ => hbA.block j hj
      have hlt' := hown.lt
      have hcall := Lib.hid (HCL.out l (List.mem_of_getElem? hx) (wr.alloc (.cells #[.int .i64 (at5 l 0), .int .i64 (at5 l 1), .int .i64 (at5 l 2), .int .i64 (at5 l 3), .int .i64 (at5 l 4)] 97)) (hB3.trans (hbA.mono (by omega))))
      clear hx
      cases hm : q l
      · have HM := Lib.hid hm
        have HU := Lib.hid (flt_skip (f := q) HX.out hm)
        clear hm
        go_wp2_with fail
        refine hcall.out.mono ?_
        rintro e w2 ⟨rfl, hb2⟩
        rw [HM.out]
        have hown2 : OwnP w2 w.heap.size _ ((ps.take k).filter q) := hownA.kept fun j hj _ => hb2.block j hj
        have hb02 := hbA.trans (hb2.mono (by simp))
        rw [← HU.out] at hown2
        have hB5 : Below w.heap.size w w2 := hB3.trans (hb02.mono (by omega))
        clear hownA hown hc0 hc1 hc2 hc3' hc4 hbA hb2 hlt' hb02 hB3
        go_wp2
        go_roundw
        case rel => exact ⟨k + 1, by omega, by go_num, hown2, hB5⟩
        case measure => simp [intOf]; omega
      · have HM := Lib.hid hm
        have HU := Lib.hid (flt_step (f := q) HX.out hm)
        clear hm
        go_wp2_with fail
        refine hcall.out.mono ?_
        rintro e w2 ⟨rfl, hb2⟩
        rw [HM.out]
        have hown2 : OwnP w2 w.heap.size _ ((ps.take k).filter q) := hownA.kept fun j hj _ => hb2.block j hj
        have hb02 := hbA.trans (hb2.mono (by simp))
        have hs2 := hb02.size
        obtain ⟨e0, e1, e2, e3, e4⟩ := cells5 ((hb2.block wr.heap.size (by simp)).trans (heap_alloc_new wr (.cells #[.int .i64 (at5 l 0), .int .i64 (at5 l 1), .int .i64 (at5 l 2), .int .i64 (at5 l 3), .int .i64 (at5 l 4)] 97)))
        clear hownA hown hc0 hc1 hc2 hc3' hc4 hbA hb2
        go_wp2_with (first
          | (at_builtin; refine wpList_appP rfl _ _ rfl w.heap.size _ ((ps.take k).filter q) rfl hown2 l _ rfl rfl (by omega) (by omega) ?_; intro v5 w5 hown5 hg5)
          | go_in)
        rw [← HU.out] at hown5
        have hB5 : Below w.heap.size w w5 := (hB3.trans (hb02.mono (by omega))).trans (hg5.below (fun g hg => (hlt' g hg).1) (by omega))
        clear hg5 hlt' hown2 hb02 hB3
        go_roundw
        case rel => exact ⟨k + 1, by omega, by go_num, hown5, hB5⟩
        case measure => simp [intOf]; omega
    · have HKE : Hid (ps.take k = ps) := List.take_of_length_le (by have := HNN.out; omega)
      go_wp2
      go_ret
      rw [HKE.out] at hown
      exact ⟨_, rfl, hown, hB3⟩


set_option maxRecDepth 100000 in
set_option maxHeartbeats 2000000 in
theorem i_keptA {ps : List (List Int)} {v : Value} {B : Nat} {w0 w : World} (T : Nat → Int) (q : List Int → Bool) (ho : OwnP w0 B v ps) (hb0 : Below w0.heap.size w0 w) (hl : ps.length ≤ 1048576)
    (hcl : ∀ l ∈ ps, ∀ w', Below w.heap.size w w' → Calls Try.prog 287 #[.agg #[.int .i64 (T 0), .int .i64 (T 1), .int .i64 (T 2), .int .i64 (T 3), .int .i64 (T 4)], .agg #[.int .i64 (at5 l 0), .int .i64 (at5 l 1), .int .i64 (at5 l 2), .int .i64 (at5 l 3), .int .i64 (at5 l 4)]] w' (NewV w' (.bool (q l)))) :
    Calls Try.prog 192 #[v, .func (.method "loop.example/coveringtests/impl.agrees") #[.iface 191 (.agg #[.int .i64 (T 0), .int .i64 (T 1), .int .i64 (T 2), .int .i64 (T 3), .int .i64 (T 4)])] #[]] w (NewP w (ps.filter q)) := by
  obtain ⟨a, c, rfl, hat⟩ := ho.at
  have HAT := Lib.hid hat
  have HCL := Lib.hid hcl
  obtain ⟨M, hM⟩ : ∃ M, ps.length = M := ⟨_, rfl⟩
  have HNN := Lib.hid hM
  have hMl : M ≤ 1048576 := by omega
  have hs0 := hb0.size
  rw [hM]
  clear hat ho hM hl hcl
  go_enter Try.func192, Try.ntmps192
  go_wp2
  go_loopw [5, 10] (fun v i wr => ∃ k : Nat, k ≤ M ∧ i = .int .i64 k ∧ OwnP wr w.heap.size v ((ps.take k).filter q) ∧ Below w.heap.size w wr) (fun _ i _ => M - (intOf i).toNat)
  case atStart => exact ⟨0, Nat.zero_le _, rfl, OwnP.nil _ _, Below.refl _ _⟩
  case round =>
    obtain ⟨k, hk, rfl, hown, hB3⟩ := hrel
    have hz3 := hB3.size
    by_cases hlt : k < M
    · obtain ⟨l, hx⟩ := at_of_lt (show k < ps.length by have := HNN.out; omega)
      obtain ⟨g, hg1, hg2, hidx, hcs⟩ := HAT.out k l hx
      have HX := Lib.hid hx
      rw [HNN.out] at hidx
      have hBl3 : Below w0.heap.size w0 wr := hb0.trans (hB3.mono (by omega))
      have hc (j : Nat) (hj : j < 5) : wr.cell? ⟨g, k * 5 + j, none⟩ = some (.int .i64 (at5 l j)) := (hBl3.cell (p := ⟨g, k * 5 + j, none⟩) hg2).trans (hcs j hj)
      have hc0 := hc 0 (by omega)
      have hc1 := hc 1 (by omega)
      have hc2 := hc 2 (by omega)
      have hc3' := hc 3 (by omega)
      have hc4 := hc 4 (by omega)
      simp only [Nat.add_zero] at hc0
      clear hc hcs
      have hbA := (Below.refl wr.heap.size wr).alloc (Nat.le_refl _) (.cells #[.int .i64 (at5 l 0), .int .i64 (at5 l 1), .int .i64 (at5 l 2), .int .i64 (at5 l 3), .int .i64 (at5 l 4)] 97)
      have hml := flt_len q ps k
      have hln := HNN.out
      have hownA : OwnP (wr.alloc (.cells #[.int .i64 (at5 l 0), .int .i64 (at5 l 1), .int .i64 (at5 l 2), .int .i64 (at5 l 3), .int .i64 (at5 l 4)] 97)) w.heap.size _ ((ps.take k).filter q) := hown.kept fun j hj _ => hbA.block j hj
      have hlt' := hown.lt
      have hcall := Lib.hid (HCL.out l (List.mem_of_getElem? hx) (wr.alloc (.cells #[.int .i64 (at5 l 0), .int .i64 (at5 l 1), .int .i64 (at5 l 2), .int .i64 (at5 l 3), .int .i64 (at5 l 4)] 97)) (hB3.trans (hbA.mono (by omega))))
      clear hx
      cases hm : q l
      · have HM := Lib.hid hm
        have HU := Lib.hid (flt_skip (f := q) HX.out hm)
        clear hm
        go_wp2_with fail
        refine hcall.out.mono ?_
        rintro e w2 ⟨rfl, hb2⟩
        rw [HM.out]
        have hown2 : OwnP w2 w.heap.size _ ((ps.take k).filter q) := hownA.kept fun j hj _ => hb2.block j hj
        have hb02 := hbA.trans (hb2.mono (by simp))
        rw [← HU.out] at hown2
        have hB5 : Below w.heap.size w w2 := hB3.trans (hb02.mono (by omega))
        clear hownA hown hc0 hc1 hc2 hc3' hc4 hbA hb2 hlt' hb02 hB3
        go_wp2
        go_roundw
        case rel => exact ⟨k + 1, by omega, by go_num, hown2, hB5⟩
        case measure => simp [intOf]; omega
      · have HM := Lib.hid hm
        have HU := Lib.hid (flt_step (f := q) HX.out hm)
        clear hm
        go_wp2_with fail
        refine hcall.out.mono ?_
        rintro e w2 ⟨rfl, hb2⟩
        rw [HM.out]
        have hown2 : OwnP w2 w.heap.size _ ((ps.take k).filter q) := hownA.kept fun j hj _ => hb2.block j hj
        have hb02 := hbA.trans (hb2.mono (by simp))
        have hs2 := hb02.size
        obtain ⟨e0, e1, e2, e3, e4⟩ := cells5 ((hb2.block wr.heap.size (by simp)).trans (heap_alloc_new wr (.cells #[.int .i64 (at5 l 0), .int .i64 (at5 l 1), .int .i64 (at5 l 2), .int .i64 (at5 l 3), .int .i64 (at5 l 4)] 97)))
        clear hownA hown hc0 hc1 hc2 hc3' hc4 hbA hb2
        go_wp2_with (first
          | (at_builtin; refine wpList_appP rfl _ _ rfl w.heap.size _ ((ps.take k).filter q) rfl hown2 l _ rfl rfl (by omega) (by omega) ?_; intro v5 w5 hown5 hg5)
          | go_in)
        rw [← HU.out] at hown5
        have hB5 : Below w.heap.size w w5 := (hB3.trans (hb02.mono (by omega))).trans (hg5.below (fun g hg => (hlt' g hg).1) (by omega))
        clear hg5 hlt' hown2 hb02 hB3
        go_roundw
        case rel => exact ⟨k + 1, by omega, by go_num, hown5, hB5⟩
        case measure => simp [intOf]; omega
    · have HKE : Hid (ps.take k = ps) := List.take_of_length_le (by have := HNN.out; omega)
      go_wp2
      go_ret
      rw [HKE.out] at hown
      exact ⟨_, rfl, hown, hB3⟩


set_option maxRecDepth 100000 in
set_option maxHeartbeats 2000000 in
theorem i_keptS {ps : List (List Int)} {v : Value} {B : Nat} {w0 w : World} (bx : Nat) (q : List Int → Bool) (ho : OwnP w0 B v ps) (hb0 : Below w0.heap.size w0 w) (hl : ps.length ≤ 1048576)
    (hcl : ∀ l ∈ ps, ∀ w', Below w.heap.size w w' → Calls Try.prog 203 #[.agg #[.int .i64 (at5 l 0), .int .i64 (at5 l 1), .int .i64 (at5 l 2), .int .i64 (at5 l 3), .int .i64 (at5 l 4)], .pointer (some ⟨bx, 0, none⟩)] w' (NewV w' (.bool (q l)))) :
    Calls Try.prog 192 #[v, .func (.func 203) #[] #[.pointer (some ⟨bx, 0, none⟩)]] w (NewP w (ps.filter q)) := by
  obtain ⟨a, c, rfl, hat⟩ := ho.at
  have HAT := Lib.hid hat
  have HCL := Lib.hid hcl
  obtain ⟨M, hM⟩ : ∃ M, ps.length = M := ⟨_, rfl⟩
  have HNN := Lib.hid hM
  have hMl : M ≤ 1048576 := by omega
  have hs0 := hb0.size
  rw [hM]
  clear hat ho hM hl hcl
  go_enter Try.func192, Try.ntmps192
  go_wp2
  go_loopw [5, 10] (fun v i wr => ∃ k : Nat, k ≤ M ∧ i = .int .i64 k ∧ OwnP wr w.heap.size v ((ps.take k).filter q) ∧ Below w.heap.size w wr) (fun _ i _ => M - (intOf i).toNat)
  case atStart => exact ⟨0, Nat.zero_le _, rfl, OwnP.nil _ _, Below.refl _ _⟩
  case round =>
    obtain ⟨k, hk, rfl, hown, hB3⟩ := hrel
    have hz3 := hB3.size
    by_cases hlt : k < M
    · obtain ⟨l, hx⟩ := at_of_lt (show k < ps.length by have := HNN.out; omega)
      obtain ⟨g, hg1, hg2, hidx, hcs⟩ := HAT.out k l hx
      have HX := Lib.hid hx
      rw [HNN.out] at hidx
      have hBl3 : Below w0.heap.size w0 wr := hb0.trans (hB3.mono (by omega))
      have hc (j : Nat) (hj : j < 5) : wr.cell? ⟨g, k * 5 + j, none⟩ = some (.int .i64 (at5 l j)) := (hBl3.cell (p := ⟨g, k * 5 + j, none⟩) hg2).trans (hcs j hj)
      have hc0 := hc 0 (by omega)
      have hc1 := hc 1 (by omega)
      have hc2 := hc 2 (by omega)
      have hc3' := hc 3 (by omega)
      have hc4 := hc 4 (by omega)
      simp only [Nat.add_zero] at hc0
      clear hc hcs
      have hbA := (Below.refl wr.heap.size wr).alloc (Nat.le_refl _) (.cells #[.int .i64 (at5 l 0), .int .i64 (at5 l 1), .int .i64 (at5 l 2), .int .i64 (at5 l 3), .int .i64 (at5 l 4)] 97)
      have hml := flt_len q ps k
      have hln := HNN.out
      have hownA : OwnP (wr.alloc (.cells #[.int .i64 (at5 l 0), .int .i64 (at5 l 1), .int .i64 (at5 l 2), .int .i64 (at5 l 3), .int .i64 (at5 l 4)] 97)) w.heap.size _ ((ps.take k).filter q) := hown.kept fun j hj _ => hbA.block j hj
      have hlt' := hown.lt
      have hcall := Lib.hid (HCL.out l (List.mem_of_getElem? hx) (wr.alloc (.cells #[.int .i64 (at5 l 0), .int .i64 (at5 l 1), .int .i64 (at5 l 2), .int .i64 (at5 l 3), .int .i64 (at5 l 4)] 97)) (hB3.trans (hbA.mono (by omega))))
      clear hx
      cases hm : q l
      · have HM := Lib.hid hm
        have HU := Lib.hid (flt_skip (f := q) HX.out hm)
        clear hm
        go_wp2_with fail
        refine hcall.out.mono ?_
        rintro e w2 ⟨rfl, hb2⟩
        rw [HM.out]
        have hown2 : OwnP w2 w.heap.size _ ((ps.take k).filter q) := hownA.kept fun j hj _ => hb2.block j hj
        have hb02 := hbA.trans (hb2.mono (by simp))
        rw [← HU.out] at hown2
        have hB5 : Below w.heap.size w w2 := hB3.trans (hb02.mono (by omega))
        clear hownA hown hc0 hc1 hc2 hc3' hc4 hbA hb2 hlt' hb02 hB3
        go_wp2
        go_roundw
        case rel => exact ⟨k + 1, by omega, by go_num, hown2, hB5⟩
        case measure => simp [intOf]; omega
      · have HM := Lib.hid hm
        have HU := Lib.hid (flt_step (f := q) HX.out hm)
        clear hm
        go_wp2_with fail
        refine hcall.out.mono ?_
        rintro e w2 ⟨rfl, hb2⟩
        rw [HM.out]
        have hown2 : OwnP w2 w.heap.size _ ((ps.take k).filter q) := hownA.kept fun j hj _ => hb2.block j hj
        have hb02 := hbA.trans (hb2.mono (by simp))
        have hs2 := hb02.size
        obtain ⟨e0, e1, e2, e3, e4⟩ := cells5 ((hb2.block wr.heap.size (by simp)).trans (heap_alloc_new wr (.cells #[.int .i64 (at5 l 0), .int .i64 (at5 l 1), .int .i64 (at5 l 2), .int .i64 (at5 l 3), .int .i64 (at5 l 4)] 97)))
        clear hownA hown hc0 hc1 hc2 hc3' hc4 hbA hb2
        go_wp2_with (first
          | (at_builtin; refine wpList_appP rfl _ _ rfl w.heap.size _ ((ps.take k).filter q) rfl hown2 l _ rfl rfl (by omega) (by omega) ?_; intro v5 w5 hown5 hg5)
          | go_in)
        rw [← HU.out] at hown5
        have hB5 : Below w.heap.size w w5 := (hB3.trans (hb02.mono (by omega))).trans (hg5.below (fun g hg => (hlt' g hg).1) (by omega))
        clear hg5 hlt' hown2 hb02 hB3
        go_roundw
        case rel => exact ⟨k + 1, by omega, by go_num, hown5, hB5⟩
        case measure => simp [intOf]; omega
    · have HKE : Hid (ps.take k = ps) := List.take_of_length_le (by have := HNN.out; omega)
      go_wp2
      go_ret
      rw [HKE.out] at hown
      exact ⟨_, rfl, hown, hB3⟩

/- Walks: SuspectsOf and CulpritsOf, by the program. -/
open Go.RowKit

theorem cell5s {w : World} {b t : Nat} {P : Nat → Int} (h : w.heap[b]? = some (.cells #[.int .i64 (P 0), .int .i64 (P 1), .int .i64 (P 2), .int .i64 (P 3), .int .i64 (P 4)] t (0, 0))) : w.cell? ⟨b, 0, none⟩ = some (.int .i64 (P 0)) ∧ w.cell? ⟨b, 1, none⟩ = some (.int .i64 (P 1)) ∧ w.cell? ⟨b, 2, none⟩ = some (.int .i64 (P 2)) ∧ w.cell? ⟨b, 3, none⟩ = some (.int .i64 (P 3)) ∧ w.cell? ⟨b, 4, none⟩ = some (.int .i64 (P 4)) := cells5 h
theorem asPF (v : Value) (wx : World) : (Instr.typeAssert (.iface 192 v) 158 191 true).run Try.prog wx = .ok (.tuple #[.agg #[.int .i64 ((fun _ => 0) 0), .int .i64 ((fun _ => 0) 1), .int .i64 ((fun _ => 0) 2), .int .i64 ((fun _ => 0) 3), .int .i64 ((fun _ => 0) 4)], .bool false]) wx := by kernel_rfl
theorem asPP (v : Value) (wx : World) : (Instr.typeAssert (.iface 191 v) 158 191 true).run Try.prog wx = .ok (.tuple #[v, .bool true]) wx := by kernel_rfl
theorem asFF (v : Value) (wx : World) : (Instr.typeAssert (.iface 192 v) 158 192 true).run Try.prog wx = .ok (.tuple #[v, .bool true]) wx := by kernel_rfl
theorem asFP (v : Value) (wx : World) : (Instr.typeAssert (.iface 191 v) 158 192 true).run Try.prog wx = .ok (.tuple #[.agg #[.int .i64 ((fun _ => 0) 0), .int .i64 ((fun _ => 0) 1), .int .i64 ((fun _ => 0) 2), .int .i64 ((fun _ => 0) 3), .int .i64 ((fun _ => 0) 4)], .bool false]) wx := by kernel_rfl

set_option maxHeartbeats 1000000 in
theorem i_canJudge {m : List Int} {s : List (List Int)} {f : List Bool} {a a1 a2 : Option Addr} {c c1 c2 lo hi lo1 hi1 : Nat} {w : World} {t : Int} (hm : RI w lo hi a m) (hlm : m.length ≤ 9223372036854775807) (hs : RII w lo1 hi1 a1 s) (hls : s.length ≤ 9223372036854775807) (hg : ∀ r ∈ s, r.length ≤ 9223372036854775807) (_hlf : f.length ≤ 9223372036854775807) :
    Calls Try.prog 201 #[.slice a m.length c, .slice a1 s.length c1, .slice a2 f.length c2, .int .i64 t] w (RO w (.bool (jdG m s f t))) := by
  cases hc : okC m s t
  · have HC := Lib.hid hc; clear hc
    have HJ : Hid (jdG m s f t = false) := by show _ = _; unfold jdG; rw [HC.out]; rfl
    go_enter Try.func201, Try.ntmps201
    go_wp2_with fail
    refine (i_canCover hm hlm hs hls hg).mono ?_
    rintro e w1 ⟨rfl, hd⟩
    rw [HC.out]
    go_wp2
    go_ret
    exact Dr.boolD (b := false) hd HJ.out.symm
  · have HC := Lib.hid hc; clear hc
    have HJ : Hid (((f.length : Int) == (s.length : Int)) = jdG m s f t) := by
      show _ = _; unfold jdG; rw [HC.out, Bool.true_and, Bool.eq_iff_iff, beq_iff_eq, decide_eq_true_eq]; omega
    go_enter Try.func201, Try.ntmps201
    go_wp2_with fail
    refine (i_canCover hm hlm hs hls hg).mono ?_
    rintro e w1 ⟨rfl, hd⟩
    rw [HC.out]
    go_wp2
    go_ret
    exact Dr.boolD hd HJ.out

set_option maxRecDepth 100000 in
set_option maxHeartbeats 4000000 in
theorem i_isSuspect {s : List (List Int)} {f : List Bool} {p : List Int} {v : Value} {B n : Nat} {w0 w : World} (ho : OwnRs w0 B v s.length (resV s f)) (hb0 : Below w0.heap.size w0 w) (hlen : f.length = s.length) (hl : s.length ≤ 1048576) (hr : ∀ r ∈ s, r.length = n) (hp : p.length = n) (hn : n ≤ 5) :
    Calls Try.prog 204 #[v, .agg #[.int .i64 (at5 p 0), .int .i64 (at5 p 1), .int .i64 (at5 p 2), .int .i64 (at5 p 3), .int .i64 (at5 p 4)]] w (NewV w (.bool (susF s f p))) := by
  obtain ⟨av, cv, rfl, hat⟩ := ho.at
  have HAT := Lib.hid hat
  have HR := Lib.hid hr
  have HP := Lib.hid hp
  have hs0 := hb0.size
  obtain ⟨N, hN⟩ : ∃ N, s.length = N := ⟨_, rfl⟩
  have HN := Lib.hid hN
  have HF : Hid (f.length = N) := by show _ = _; omega
  have hNl : N ≤ 1048576 := by omega
  rw [hN] at HAT ⊢
  have hA := Lib.hid (heap_alloc_new w (.cells #[.int .i64 (at5 p 0), .int .i64 (at5 p 1), .int .i64 (at5 p 2), .int .i64 (at5 p 3), .int .i64 (at5 p 4)] 97))
  have hbA := (Below.refl w.heap.size w).alloc (Nat.le_refl _) (.cells #[.int .i64 (at5 p 0), .int .i64 (at5 p 1), .int .i64 (at5 p 2), .int .i64 (at5 p 3), .int .i64 (at5 p 4)] 97)
  obtain ⟨W, hWe⟩ : ∃ W, w.alloc (.cells #[.int .i64 (at5 p 0), .int .i64 (at5 p 1), .int .i64 (at5 p 2), .int .i64 (at5 p 3), .int .i64 (at5 p 4)] 97) = W := ⟨_, rfl⟩
  have hWs : W.heap.size = w.heap.size + 1 := by rw [← hWe]; simp
  have hWl : w.heap.size + 1 ≤ W.heap.size ∧ W.heap.size ≤ w.heap.size + 1 := by omega
  rw [hWe] at hA hbA
  have h1 := asPF; have h2 := asPP; have h3 := asFF; have h4 := asFP
  clear hat ho hr hp hN hlen hl hWs
  go_enter Try.func204, Try.ntmps204
  go_wp2_with fail
  try rw [hWe]
  clear hWe
  go_wp2
  go_loopw [5, 12] (fun v i wr => ∃ (k : Nat) (X : Bool), k ≤ N ∧ i = .int .i64 k ∧ v = .bool X ∧ Hid (X = mtB true (s.take k) (f.take k) p ∧ mtB false (s.take k) (f.take k) p = false) ∧ Below W.heap.size W wr) (fun _ i _ => N - (intOf i).toNat)
  case atStart => exact ⟨0, false, Nat.zero_le _, rfl, rfl, ⟨mtB_zero.symm, mtB_zero⟩, Below.refl _ _⟩
  case round =>
    obtain ⟨k, X, hk, rfl, rfl, HX, hB3⟩ := hrel
    have hz3 := hB3.size
    by_cases hlt : k < N
    · obtain ⟨x, hx⟩ := at_of_lt (show k < s.length by have := HN.out; omega)
      obtain ⟨y, hy⟩ := at_of_lt (show k < f.length by have := HF.out; omega)
      obtain ⟨g, hg1, hg2, hidx, hc⟩ := HAT.out k _ (resV_at hx hy)
      have HME : Hid (meet5 (at5 p) (at5 x) = mB p x) := by
        have h5 := HR.out x (List.mem_of_getElem? hx)
        have h6 := HP.out
        exact meet5_mB (by omega) (by omega)
      have HS1 : Hid (mtB true (s.take (k + 1)) (f.take (k + 1)) p = (X || (mB p x && y == true)) ∧ mtB false (s.take (k + 1)) (f.take (k + 1)) p = (mB p x && y == false)) := by
        refine ⟨by rw [mtB_step hx hy, HX.out.1], by rw [mtB_step hx hy, HX.out.2, Bool.false_or]⟩
      have HBAD : Hid (y = false → mB p x = true → susF s f p = false) := fun e1 e2 => by
        unfold susF
        subst e1; rw [mtB_iff.2 ⟨k, x, hx, hy, e2⟩]; simp
      have hc2 : wr.cell? ⟨g, k, none⟩ = some (rsW (at5 x) y) := by
        refine ((hb0.trans ((hbA.trans (hB3.mono (by omega))).mono (by omega))).cell (p := ⟨g, k, none⟩) hg2).trans hc
      have hbx := (hB3.block w.heap.size (by omega)).trans hA.out
      clear hx hy hc
      cases y
      · rw [rsW_f] at hc2
        have hbB := (Below.refl wr.heap.size wr).alloc (Nat.le_refl _) (.cells #[.int .i64 (at5 x 0), .int .i64 (at5 x 1), .int .i64 (at5 x 2), .int .i64 (at5 x 3), .int .i64 (at5 x 4)] 191)
        obtain ⟨e0, e1, e2, e3, e4⟩ := cell5s ((hbB.block w.heap.size (by omega)).trans hbx)
        cases hmx : mB p x
        · have HM := Lib.hid hmx
          clear hmx
          go_wp2_with fail
          refine (i_meets (at5 p) (at5 x) _).mono ?_
          rintro e w2 ⟨rfl, hb2⟩
          rw [HME.out, HM.out]
          have hB5 : Below W.heap.size W w2 := hB3.trans ((hbB.trans (hb2.mono (by simp))).mono (by omega))
          have HI : Hid (X = mtB true (s.take (k + 1)) (f.take (k + 1)) p ∧ mtB false (s.take (k + 1)) (f.take (k + 1)) p = false) := by
            have h := HS1.out
            rw [HM.out] at h
            exact ⟨by rw [h.1]; simp, by rw [h.2]; rfl⟩
          clear hbB hb2 hB3 e0 e1 e2 e3 e4 hc2
          go_wp2
          go_roundw
          case rel => exact ⟨k + 1, X, by omega, by go_num, rfl, HI, hB5⟩
          case measure => simp [intOf]; omega
        · have HM := Lib.hid hmx
          clear hmx
          go_wp2_with fail
          refine (i_meets (at5 p) (at5 x) _).mono ?_
          rintro e w2 ⟨rfl, hb2⟩
          rw [HME.out, HM.out]
          have hB5 : Below W.heap.size W w2 := hB3.trans ((hbB.trans (hb2.mono (by simp))).mono (by omega))
          clear hbB hb2 hB3 e0 e1 e2 e3 e4 hc2
          go_wp2
          go_ret
          rw [HBAD.out (by first | rfl | trivial) HM.out]
          exact ⟨rfl, hbA.trans (hB5.mono (by omega))⟩
      · rw [rsW_t] at hc2
        have hbB := (Below.refl wr.heap.size wr).alloc (Nat.le_refl _) (.cells #[.int .i64 (at5 x 0), .int .i64 (at5 x 1), .int .i64 (at5 x 2), .int .i64 (at5 x 3), .int .i64 (at5 x 4)] 192)
        obtain ⟨e0, e1, e2, e3, e4⟩ := cell5s ((hbB.block w.heap.size (by omega)).trans hbx)
        cases X
        · go_wp2_with fail
          refine (i_meets (at5 p) (at5 x) _).mono ?_
          rintro e w2 ⟨rfl, hb2⟩
          rw [HME.out]
          have hB5 : Below W.heap.size W w2 := hB3.trans ((hbB.trans (hb2.mono (by simp))).mono (by omega))
          have HI : Hid (mB p x = mtB true (s.take (k + 1)) (f.take (k + 1)) p ∧ mtB false (s.take (k + 1)) (f.take (k + 1)) p = false) := by
            have h := HS1.out
            exact ⟨by rw [h.1]; simp, by rw [h.2]; simp⟩
          obtain ⟨Z, hZ⟩ : ∃ Z, mB p x = Z := ⟨_, rfl⟩
          rw [hZ] at HI ⊢
          clear hbB hb2 hB3 e0 e1 e2 e3 e4 hc2 hZ HS1 HME HBAD
          go_wp2
          go_roundw
          case rel => exact ⟨k + 1, Z, by omega, by go_num, rfl, HI, hB5⟩
          case measure => simp [intOf]; omega
        · have hB5 : Below W.heap.size W (wr.alloc (.cells #[.int .i64 (at5 x 0), .int .i64 (at5 x 1), .int .i64 (at5 x 2), .int .i64 (at5 x 3), .int .i64 (at5 x 4)] 192)) := hB3.trans (hbB.mono (by omega))
          have HI : Hid (true = mtB true (s.take (k + 1)) (f.take (k + 1)) p ∧ mtB false (s.take (k + 1)) (f.take (k + 1)) p = false) := by
            have h := HS1.out
            exact ⟨by rw [h.1]; simp, by rw [h.2]; simp⟩
          clear hbB hB3 HS1 HME HBAD
          go_wp2
          go_roundw
          case rel => exact ⟨k + 1, true, by omega, by go_num, rfl, HI, hB5⟩
          case measure => simp [intOf]; omega
    · have HE : Hid (X = susF s f p) := by
        have h := HX.out
        have h5 := HN.out
        have h6 := HF.out
        rw [mtB_end (by omega) (by omega), mtB_end (by omega) (by omega)] at h
        show _ = _
        unfold susF
        rw [h.2, ← h.1]; simp
      go_wp2
      go_ret
      rw [HE.out]
      exact ⟨rfl, hbA.trans (hB3.mono (by omega))⟩

set_option maxHeartbeats 1000000 in
theorem i_susC {s : List (List Int)} {f : List Bool} {p : List Int} {av : Option Addr} {cv B n bx : Nat} {w0 w : World} (ho : OwnRs w0 B (.slice av s.length cv) s.length (resV s f)) (hb0 : Below w0.heap.size w0 w) (hbx : w.heap[bx]? = some (.cells #[.slice av s.length cv] 154 (0, 0))) (hlen : f.length = s.length) (hl : s.length ≤ 1048576) (hr : ∀ r ∈ s, r.length = n) (hp : p.length = n) (hn : n ≤ 5) :
    Calls Try.prog 203 #[.agg #[.int .i64 (at5 p 0), .int .i64 (at5 p 1), .int .i64 (at5 p 2), .int .i64 (at5 p 3), .int .i64 (at5 p 4)], .pointer (some ⟨bx, 0, none⟩)] w (NewV w (.bool (susF s f p))) := by
  have hblt : bx < w.heap.size := by
    cases hx : w.heap[bx]? with
    | none => rw [hx] at hbx; cases hbx
    | some o => exact (Array.getElem?_eq_some_iff.1 hx).1
  have hbA := (Below.refl w.heap.size w).alloc (Nat.le_refl _) (.cells #[.int .i64 (at5 p 0), .int .i64 (at5 p 1), .int .i64 (at5 p 2), .int .i64 (at5 p 3), .int .i64 (at5 p 4)] 97)
  have hc := cell_of_row _ _ 0 _ _ _ ((hbA.block bx hblt).trans hbx)
  have HC := Lib.hid (i_isSuspect (w := w.alloc (.cells #[.int .i64 (at5 p 0), .int .i64 (at5 p 1), .int .i64 (at5 p 2), .int .i64 (at5 p 3), .int .i64 (at5 p 4)] 97)) ho (hb0.trans (hbA.mono hb0.size)) hlen hl hr hp hn)
  have hc1 : (w.alloc (.cells #[.int .i64 (at5 p 0), .int .i64 (at5 p 1), .int .i64 (at5 p 2), .int .i64 (at5 p 3), .int .i64 (at5 p 4)] 97)).cell? ⟨bx, 0, none⟩ = some (.slice av s.length cv) := hc
  clear hc ho hb0 hbx hlen hp hr hblt
  go_enter Try.func203, Try.ntmps203
  go_wp2_with fail
  refine HC.out.mono ?_
  rintro e w2 ⟨rfl, hb2⟩
  go_wp2
  go_ret
  exact ⟨rfl, hbA.trans (hb2.mono (by simp))⟩

set_option maxRecDepth 100000 in
set_option maxHeartbeats 2000000 in
theorem i_SuspectsOf {m : List Int} {s : List (List Int)} {f : List Bool} {a a1 a2 : Option Addr} {c c1 c2 lo hi lo1 hi1 lo2 hi2 : Nat} {w : World} {t : Int} (hm : RI w lo hi a m) (hlm : m.length ≤ 9223372036854775807) (hs : RII w lo1 hi1 a1 s) (hls : s.length ≤ 9223372036854775807) (hg : ∀ r ∈ s, r.length ≤ 9223372036854775807) (hf : RBo w lo2 hi2 a2 f) (hlf : f.length ≤ 9223372036854775807) (_ht0 : -9223372036854775808 ≤ t) (_ht1 : t ≤ 9223372036854775807) (hB : hi ≤ w.heap.size) (hB1 : hi1 ≤ w.heap.size) (hB2 : hi2 ≤ w.heap.size) :
    Calls Try.prog 95 #[.slice a m.length c, .slice a1 s.length c1, .slice a2 f.length c2, .int .i64 t] w (NewII w (suL m s f t)) := by
  have HG := Lib.hid hg; clear hg
  cases hj : jdG m s f t
  · have HE : Hid (suL m s f t = []) := su_no hj
    have HJ := Lib.hid hj; clear hj
    go_enter Try.func95, Try.ntmps95
    go_wp2_with fail
    refine (i_canJudge hm hlm hs hls HG.out hlf).mono ?_
    rintro e w1 ⟨rfl, hd⟩
    rw [HJ.out]
    go_wp2
    go_ret
    exact NewII.none HE.out (Dr.below hd _)
  have HE : Hid (suL m s f t = susP m s f t) := su_yes hj
  have HJ := Lib.hid hj
  have hjm := jdG_m hj
  have HLF := Lib.hid hjm.2
  have hp := okC_parts hjm.1
  have HR := Lib.hid hp.2.2.2
  have HOK := Lib.hid hp.1
  have hm5 := okM_len hp.1
  have ht := hp.2.1
  have hsl := hp.2.2.1
  have HPL := Lib.hid (patS_len (head := []) HOK.out t)
  have HRW := Lib.hid (suL_row (m := m) (s := s) (f := f) (t := t))
  have HLN := Lib.hid (suL_len (m := m) (s := s) (f := f) (t := t))
  clear hj hjm hp
  go_enter Try.func95, Try.ntmps95
  go_wp2_with fail
  refine (i_canJudge hm hlm hs hls HG.out hlf).mono ?_
  rintro e w1 ⟨rfl, hd⟩
  rw [HJ.out]
  have hd : Dr w w1 := hd
  have hz1 := Dr.le hd
  have hbW := Dr.below hd w.heap.size
  go_wp2_with fail
  refine (i_resultsOf (hs.dr hd) (by omega) (hf.below hbW hB2) (by omega) HLF.out (by omega) (fun r hr => by have := HR.out r hr; omega)).mono ?_
  rintro e w2 ⟨v2, rfl, ho2, hb2⟩
  obtain ⟨av, cv, hv2, _⟩ := ho2.at
  subst hv2
  have hz2 := hb2.size
  have hbox := heap_alloc_new w2 (.cells #[.slice av s.length cv] 154)
  have hbA := (Below.refl w2.heap.size w2).alloc (Nat.le_refl _) (.cells #[.slice av s.length cv] 154)
  have hb02 : Below w.heap.size w (w2.alloc (.cells #[.slice av s.length cv] 154)) := hbW.trans ((hb2.mono (by omega)).trans (hbA.mono (by omega)))
  have hm3 := hm.below hb02 hB
  have HO2 := Lib.hid ho2
  have HBX := Lib.hid hbox
  clear ho2 hbox
  go_wp2_with fail
  refine (i_patternsOf HOK.out hm3 (by simp; omega) ht.1 ht.2).mono ?_
  rintro e w3 ⟨v3, rfl, ho3, hb3⟩
  have hz3 := hb3.size
  simp only [World.size_alloc] at hz3
  have hb23 : Below w2.heap.size w2 w3 := hbA.trans (hb3.mono (by simp))
  obtain ⟨av3, cv3, hv3, _⟩ := ho3.at
  subst hv3
  have HKC : Hid (∀ l ∈ patS m [] t, ∀ w', Below w3.heap.size w3 w' → Calls Try.prog 203 #[.agg #[.int .i64 (at5 l 0), .int .i64 (at5 l 1), .int .i64 (at5 l 2), .int .i64 (at5 l 3), .int .i64 (at5 l 4)], .pointer (some ⟨w2.heap.size, 0, none⟩)] w' (NewV w' (.bool (susF s f l)))) := fun l hl w' hb' => by
    refine i_susC HO2.out (hb23.trans (hb'.mono (by omega))) ?_ HLF.out (by omega) HR.out (patS_row l hl) hm5.2
    exact ((hb'.block w2.heap.size (by omega)).trans (hb3.block w2.heap.size (by simp))).trans HBX.out
  clear hm3
  go_wp2_with fail
  refine (i_keptS _ (susF s f) ho3 (Below.refl _ _) (by have := HPL.out; omega) HKC.out).mono ?_
  rintro e w4 ⟨v4, rfl, ho4, hb4⟩
  have hz4 := hb4.size
  obtain ⟨av4, cv4, hv4, _⟩ := ho4.at
  subst hv4
  have ho5 : OwnP w4 w3.heap.size _ (susP m s f t) := ho4
  go_wp2_with fail
  refine (i_listsOf (n := m.length) ho5 (by omega) (by omega) (by have := HLN.out; rw [HE.out] at this; omega) (fun l hl => (HRW.out l (by rw [HE.out]; exact hl)).1)).mono ?_
  rintro e w5 ⟨a5, c5, rfl, h5, hb5⟩
  go_wp2
  go_ret
  rw [HE.out]
  exact ⟨a5, c5, rfl, h5.wide (by omega) (Nat.le_refl _), ((hb02.trans (hb3.mono (by simp; omega))).trans (hb4.mono (by omega))).trans (hb5.mono (by omega))⟩

set_option maxRecDepth 100000 in
set_option maxHeartbeats 2000000 in
theorem i_CulpritsOf {m : List Int} {s : List (List Int)} {f : List Bool} {a a1 a2 : Option Addr} {c c1 c2 lo hi lo1 hi1 lo2 hi2 : Nat} {w : World} {t : Int} (hm : RI w lo hi a m) (hlm : m.length ≤ 9223372036854775807) (hs : RII w lo1 hi1 a1 s) (hls : s.length ≤ 9223372036854775807) (hg : ∀ r ∈ s, r.length ≤ 9223372036854775807) (hf : RBo w lo2 hi2 a2 f) (hlf : f.length ≤ 9223372036854775807) (_ht0 : -9223372036854775808 ≤ t) (_ht1 : t ≤ 9223372036854775807) (hB : hi ≤ w.heap.size) (hB1 : hi1 ≤ w.heap.size) (hB2 : hi2 ≤ w.heap.size) :
    Calls Try.prog 101 #[.slice a m.length c, .slice a1 s.length c1, .slice a2 f.length c2, .int .i64 t] w (NewII w (cuL m s f t)) := by
  have HG := Lib.hid hg; clear hg
  cases hj : jdG m s f t
  · have HE : Hid (cuL m s f t = []) := cu_no hj
    have HJ := Lib.hid hj; clear hj
    go_enter Try.func101, Try.ntmps101
    go_wp2_with fail
    refine (i_canJudge hm hlm hs hls HG.out hlf).mono ?_
    rintro e w1 ⟨rfl, hd⟩
    rw [HJ.out]
    go_wp2
    go_ret
    exact NewII.none HE.out (Dr.below hd _)
  have HE : Hid (cuL m s f t = culP m s f t) := cu_yes hj
  have HJ := Lib.hid hj
  have hjm := jdG_m hj
  have HLF := Lib.hid hjm.2
  have hp := okC_parts hjm.1
  have HR := Lib.hid hp.2.2.2
  have HOK := Lib.hid hp.1
  have hm5 := okM_len hp.1
  have ht := hp.2.1
  have hsl := hp.2.2.1
  have HPL := Lib.hid (patS_len (head := []) HOK.out t)
  have HRW := Lib.hid (cuL_row (m := m) (s := s) (f := f) (t := t))
  have HLN := Lib.hid (cuL_len (m := m) (s := s) (f := f) (t := t))
  clear hj hjm hp
  go_enter Try.func101, Try.ntmps101
  go_wp2_with fail
  refine (i_canJudge hm hlm hs hls HG.out hlf).mono ?_
  rintro e w1 ⟨rfl, hd⟩
  rw [HJ.out]
  have hd : Dr w w1 := hd
  have hz1 := Dr.le hd
  have hbW := Dr.below hd w.heap.size
  go_wp2_with fail
  refine (i_patternsOf HOK.out (hm.dr hd) (by omega) ht.1 ht.2).mono ?_
  rintro e w2 ⟨v2, rfl, ho2, hb2⟩
  obtain ⟨av2, cv2, hv2, _⟩ := ho2.at
  subst hv2
  have hz2 := hb2.size
  have hb02 : Below w.heap.size w w2 := hbW.trans (hb2.mono (by omega))
  go_wp2_with fail
  refine (i_resultsOf (hs.below hb02 hB1) (by omega) (hf.below hb02 hB2) (by omega) HLF.out (by omega) (fun r hr => by have := HR.out r hr; omega)).mono ?_
  rintro e w3 ⟨v3, rfl, ho3, hb3⟩
  obtain ⟨av, cv, hv3, hat⟩ := ho3.at
  subst hv3
  have hz3 := hb3.size
  have ho23 : OwnP w3 w1.heap.size (.slice av2 (patS m [] t).length cv2) (patS m [] t) := ho2.kept fun j hj _ => hb3.block j hj
  have HAT := Lib.hid hat
  have HFT : Hid ((patS m [] t).filter (culF (s.take 0) (f.take 0)) = patS m [] t) := by
    show _ = _
    rw [List.filter_eq_self]
    intro l _; exact culF_zero
  obtain ⟨ps, hps⟩ : ∃ ps, patS m [] t = ps := ⟨_, rfl⟩
  have HPS := Lib.hid hps
  have HPR : Hid (∀ l ∈ ps, l.length = m.length) := fun l hl => patS_row l (by rw [hps]; exact hl)
  rw [hps] at ho23 HFT HPL
  obtain ⟨N, hN⟩ : ∃ N, s.length = N := ⟨_, rfl⟩
  have HN := Lib.hid hN
  have HF : Hid (f.length = N) := by show _ = _; rw [HLF.out, hN]
  have hNl : N ≤ 1048576 := by omega
  rw [hN] at HAT ⊢
  have hbW3 : Below w.heap.size w w3 := hb02.trans (hb3.mono (by omega))
  clear hN hps hat ho3 hm hs hf hb2 hb3 hb02 hbW ho2
  go_wp2
  go_loopw [9, 25] (fun v i wr => ∃ (k B : Nat) (u : Value), k ≤ N ∧ i = .int .i64 k ∧ u = v ∧ OwnP wr B u (ps.filter (culF (s.take k) (f.take k))) ∧ Below w3.heap.size w3 wr) (fun _ i _ => N - (intOf i).toNat)
  case atStart => exact ⟨0, w1.heap.size, _, Nat.zero_le _, rfl, rfl, by rw [HFT.out, HPS.out]; exact ho23, Below.refl _ _⟩
  case round =>
    clear ho23
    obtain ⟨k, B, u, hk, rfl, rfl, hown, hB3⟩ := hrel
    have hz4 := hB3.size
    by_cases hlt : k < N
    · obtain ⟨x, hx⟩ := at_of_lt (show k < s.length by have := HN.out; omega)
      obtain ⟨y, hy⟩ := at_of_lt (show k < f.length by have := HF.out; omega)
      obtain ⟨g, hg1, hg2, hidx, hc⟩ := HAT.out k _ (resV_at hx hy)
      have hc2 : wr.cell? ⟨g, k, none⟩ = some (rsW (at5 x) y) := (hB3.cell (p := ⟨g, k, none⟩) hg2).trans hc
      have hxl := HR.out x (List.mem_of_getElem? hx)
      have HME : Hid (∀ l ∈ ps, meet5 (at5 l) (at5 x) = mB l x) := fun l hl => by
        have := HPR.out l hl
        exact meet5_mB (by omega) (by omega)
      have HST : Hid ((ps.filter (culF (s.take k) (f.take k))).filter (fun l => mB l x == y) = ps.filter (culF (s.take (k + 1)) (f.take (k + 1)))) := by
        show _ = _
        rw [List.filter_filter]
        refine List.filter_congr fun l _ => ?_
        rw [culF_step hx hy, Bool.and_comm]
      have hfl : (ps.filter (culF (s.take k) (f.take k))).length ≤ 1048576 := Nat.le_trans (List.length_filter_le _ _) (by have := HPL.out; omega)
      have HSUB : Hid (∀ l ∈ ps.filter (culF (s.take k) (f.take k)), l ∈ ps) := fun l hl => (List.mem_filter.1 hl).1
      clear hx hc hxl
      obtain ⟨qs, hqs⟩ : ∃ qs, ps.filter (culF (s.take k) (f.take k)) = qs := ⟨_, rfl⟩
      rw [hqs] at hown HST hfl HSUB
      clear hqs
      cases y
      · rw [rsW_f] at hc2
        clear hy
        go_wp2_with fail
        refine (i_keptA (at5 x) (fun l => mB l x == false) hown (Below.refl _ _) hfl (fun l hl w' _ => by
          have h := i_agreesP (at5 l) (at5 x) w'
          rw [HME.out l (HSUB.out l hl)] at h
          have e : (!mB l x) = (mB l x == false) := by cases mB l x <;> rfl
          rw [e] at h; exact h)).mono ?_
        rintro e w4 ⟨v4, rfl, ho4, hb4⟩
        rw [HST.out] at ho4
        have hB5 : Below w3.heap.size w3 w4 := hB3.trans (hb4.mono hz4)
        clear hb4 hB3 hown
        go_wp2
        go_roundw
        case rel => exact ⟨k + 1, _, _, by omega, by go_num, rfl, ho4, hB5⟩
        case measure => simp [intOf]; omega
      · rw [rsW_t] at hc2
        clear hy
        go_wp2_with fail
        refine (i_keptF (at5 x) (fun l => mB l x == true) hown (Below.refl _ _) hfl (fun l hl w' _ => by
          have h := i_agreesF (at5 l) (at5 x) w'
          rw [HME.out l (HSUB.out l hl)] at h
          have e : mB l x = (mB l x == true) := by cases mB l x <;> rfl
          rw [e] at h; exact h)).mono ?_
        rintro e w4 ⟨v4, rfl, ho4, hb4⟩
        rw [HST.out] at ho4
        have hB5 : Below w3.heap.size w3 w4 := hB3.trans (hb4.mono hz4)
        clear hb4 hB3 hown
        go_wp2
        go_roundw
        case rel => exact ⟨k + 1, _, _, by omega, by go_num, rfl, ho4, hB5⟩
        case measure => simp [intOf]; omega
    · have HTK : Hid (ps.filter (culF (s.take k) (f.take k)) = culP m s f t) := by
        show _ = _
        unfold culP
        rw [HPS.out, List.take_of_length_le (by have := HN.out; omega), List.take_of_length_le (by have := HF.out; omega)]
      rw [HTK.out] at hown
      obtain ⟨av4, cv4, hv4, _⟩ := hown.at
      subst hv4
      go_wp2_with fail
      refine (i_listsOf (n := m.length) hown (by omega) (by omega) (by have := HLN.out; rw [HE.out] at this; omega) (fun l hl => (HRW.out l (by rw [HE.out]; exact hl)).1)).mono ?_
      rintro e w5 ⟨a5, c5, rfl, h5, hb5⟩
      have hz0 := hbW3.size
      go_wp2
      go_ret
      rw [HE.out]
      exact ⟨a5, c5, rfl, h5.wide (by omega) (Nat.le_refl _), (hbW3.trans (hB3.mono hz0)).trans (hb5.mono (by omega))⟩

/- Walks: SuspectsOf and CulpritsOf, by the model. -/
open Go.RowKit


set_option maxHeartbeats 1000000 in
theorem s_goodFails {m : List Int} {s : List (List Int)} {f : List Bool} {a a1 a2 : Option Addr} {c c1 c2 lo hi lo1 hi1 : Nat} {w : World} {t : Int} (hm : RI w lo hi a m) (hlm : m.length ≤ 9223372036854775807) (hs : RII w lo1 hi1 a1 s) (hls : s.length ≤ 9223372036854775807) (hg : ∀ r ∈ s, r.length ≤ 9223372036854775807) (_hlf : f.length ≤ 9223372036854775807) :
    Calls Try.prog 205 #[.slice a m.length c, .slice a1 s.length c1, .slice a2 f.length c2, .int .i64 t] w (RO w (.bool (jdG m s f t))) := by
  cases hc : okC m s t
  · have HC := Lib.hid hc; clear hc
    have HJ : Hid (jdG m s f t = false) := by show _ = _; unfold jdG; rw [HC.out]; rfl
    go_enter Try.func205, Try.ntmps205
    go_wp2_with fail
    refine (s_good hm hlm hs hls hg).mono ?_
    rintro e w1 ⟨rfl, hd⟩
    rw [HC.out]
    go_wp2
    go_ret
    exact Dr.boolD (b := false) hd HJ.out.symm
  · have HC := Lib.hid hc; clear hc
    have HJ : Hid (((f.length : Int) == (s.length : Int)) = jdG m s f t) := by
      show _ = _; unfold jdG; rw [HC.out, Bool.true_and, Bool.eq_iff_iff, beq_iff_eq, decide_eq_true_eq]; omega
    go_enter Try.func205, Try.ntmps205
    go_wp2_with fail
    refine (s_good hm hlm hs hls hg).mono ?_
    rintro e w1 ⟨rfl, hd⟩
    rw [HC.out]
    go_wp2
    go_ret
    exact Dr.boolD hd HJ.out

theorem RBo.dr {w w' : World} {lo hi : Nat} {a : Option Addr} {m : List Bool} (h : RBo w lo hi a m) (hd : Dr w w') : RBo w' lo hi a m := by
  obtain ⟨n, rfl⟩ := hd
  exact h

set_option maxRecDepth 100000 in
set_option maxHeartbeats 4000000 in
theorem s_suspects {m : List Int} {s : List (List Int)} {f : List Bool} {a a' a2 : Option Addr} {c c' cf lo hi lo' hi' lo2 hi2 : Nat} {w : World} {t : Int} (hok : okM m = true) (hm : RI w lo hi a m) (hB : hi ≤ w.heap.size) (hs : RII w lo' hi' a' s) (hB' : hi' ≤ w.heap.size) (hf : RBo w lo2 hi2 a2 f) (hB2 : hi2 ≤ w.heap.size) (hlen : f.length = s.length) (hsl : s.length ≤ 1048576) (hr : ∀ r ∈ s, r.length = m.length) (ht0 : 0 ≤ t) (ht1 : t ≤ m.length) :
    Calls Try.prog 206 #[.slice a m.length c, .slice a' s.length c', .slice a2 f.length cf, .int .i64 t] w (GotII w (susP m s f t)) := by
  have hm5 := okM_len hok
  have HOK := Lib.hid hok; clear hok
  have HR := Lib.hid hr; clear hr
  have HRow := Lib.hid (patS_row (m := m) (t := t))
  have HLN := Lib.hid (patS_len (head := []) HOK.out t)
  have hbA := (Below.refl w.heap.size w).alloc (Nat.le_refl _) (.cells #[] 23)
  obtain ⟨N, hN⟩ : ∃ N, s.length = N := ⟨_, rfl⟩
  have HN := Lib.hid hN
  have HF : Hid (f.length = N) := by show _ = _; omega
  have hNl : N ≤ 1048576 := by omega
  rw [HF.out, hN]
  have hbB := ((Below.refl w.heap.size w).alloc (Nat.le_refl _) (.cells #[] 23)).alloc (by simp) (.cells #[] 3)
  have hm3 := hm.below hbB hB
  clear hN hlen hsl
  go_enter Try.func206, Try.ntmps206
  go_wp2_with fail
  refine (s_patterns HOK.out m.length [] a ⟨w.heap.size + 1, 0, none⟩ c 0 lo hi 0 0 _ t (by simp) hm3 (by simp; omega) (RI.nil _ _ _ _) (by simp) (by omega) (by omega)).mono ?_
  rintro e w1 ⟨ad1, c1, rfl, h1, hb1⟩
  obtain ⟨ps, hps⟩ : ∃ ps, patS m [] t = ps := ⟨_, rfl⟩
  have HPS := Lib.hid hps
  rw [hps] at h1 HRow HLN ⊢
  clear hps
  have hb1a : Below (w.heap.size + 1) (w.alloc (.cells #[] 23)) w1 := (((Below.refl _ (w.alloc (.cells #[] 23))).alloc (Nat.le_refl _) (.cells #[] 3)).trans (hb1.mono (by simp))).mono (by simp)
  have hb01 : Below w.heap.size w w1 := hbA.trans (hb1a.mono (by omega))
  have hs1 := hb1.size
  simp only [World.size_alloc] at hs1
  have hall : RII w1 (w.heap.size + 1) w1.heap.size (some ad1) ps := by have := h1.rii; simp only [World.size_alloc] at this; exact this.wide (by omega) (Nat.le_refl _)
  have hst : OwnRR w1 w.heap.size (w.heap.size + 1) w1.heap.size (.slice (some ⟨w.heap.size, 0, none⟩) 0 0) [] := OwnRR.start (Nat.le_refl _) (by omega) hb1a
  have hs2 : RII w1 lo' hi' a' s := hs.below hb01 hB'
  have hf2 : RBo w1 lo2 hi2 a2 f := hf.below hb01 hB2
  have hpl := HLN.out
  clear h1 hb1 hbA hbB hm3 hm hs hf hb1a
  go_wp2
  go_loopw [9, 11] (fun v i wr => ∃ k : Nat, k ≤ ps.length ∧ i = .int .i64 k ∧ OwnRR wr w.heap.size (w.heap.size + 1) w1.heap.size v ((ps.take k).filter (susF s f)) ∧ Kp w.heap.size (w.heap.size + 1) w1.heap.size w1 wr) (fun _ i _ => ps.length - (intOf i).toNat)
  case atStart => exact ⟨0, Nat.zero_le _, rfl, by simpa using hst, Kp.refl _ _ _ _⟩
  case round =>
    clear hst
    obtain ⟨k, hk, rfl, hown, hK⟩ := hrel
    have hsz := hK.size
    by_cases hlt : k < ps.length
    · obtain ⟨b, o, a3, c3, r, ha, hbl, hbh, hcell, hr1, hx, hcp⟩ := (hall.kp hK (Nat.le_refl _)).atc hlt
      have hidx := idxII ha hlt c1
      have HRL := Lib.hid (HRow.out r (List.mem_of_getElem? hx.out))
      have hrl : r.length ≤ 5 := by have := HRL.out; omega
      have hs3 : RII wr lo' hi' a' s := hs2.same fun j h1 h2 => (hK.below (by omega)).block j (by omega)
      have hf3 : RBo wr lo2 hi2 a2 f := hf2.same fun j h1 h2 => (hK.below (by omega)).block j (by omega)
      have hml := flt_len (susF s f) ps k
      obtain ⟨wo, hwo⟩ : ∃ wo, wo = wr := ⟨_, rfl⟩
      subst hwo
      clear ha hall hs2 hf2
      go_wp2
      go_loopw [12, 13, 14] (fun vp vf j wr => ∃ (y : Nat) (P F : Bool), y ≤ N ∧ j = .int .i64 y ∧ vp = .bool P ∧ vf = .bool F ∧ Hid (P = mtB false (s.take y) (f.take y) r ∧ F = mtB true (s.take y) (f.take y) r) ∧ Dr wo wr) (fun _ _ j _ => N - (intOf j).toNat)
      case atStart => exact ⟨0, false, false, Nat.zero_le _, rfl, rfl, rfl, ⟨mtB_zero.symm, mtB_zero.symm⟩, Dr.refl _⟩
      case round =>
        obtain ⟨y, P, F, hy, rfl, rfl, rfl, HPF, hd⟩ := hrel
        by_cases hyk : y < N
        · obtain ⟨b2, o2, a4, c4, x, ha4, _, _, hc4, hx4, hxx⟩ := (hs3.dr hd).at (show y < s.length by have := HN.out; omega)
          obtain ⟨b5, o5, g, ha5, _, _, hc5, hgg⟩ := (hf3.dr hd).at (show y < f.length by have := HF.out; omega)
          have hi4 := idxII ha4 hyk c'
          have hi5 := idxBo ha5 hyk cf
          have hxl := HR.out x (List.mem_of_getElem? hxx.out)
          have hr2 := hr1.dr hd
          have hcell2 : wr.cell? ⟨b, o + k, none⟩ = _ := ((Dr.below hd wo.heap.size).cell (p := ⟨b, o + k, none⟩) (by show b < _; omega)).trans hcell
          have HSF : Hid (mtB false (s.take (y + 1)) (f.take (y + 1)) r = (P || (mB r x && g == false)) ∧ mtB true (s.take (y + 1)) (f.take (y + 1)) r = (F || (mB r x && g == true))) :=
            ⟨by rw [mtB_step hxx.out hgg.out, HPF.out.1], by rw [mtB_step hxx.out hgg.out, HPF.out.2]⟩
          have HC := Lib.hid (fun nn => s_matches (c := c3) (c' := c4) (hr2.drewN nn) (hx4.drewN nn) (by have := HRL.out; omega) (by omega))
          clear ha4 ha5 hr2 hx4 hxl hxx hgg HPF
          cases hmx : mB r x
          · rw [hmx] at HC HSF
            clear hmx
            have HI : Hid (P = mtB false (s.take (y + 1)) (f.take (y + 1)) r ∧ F = mtB true (s.take (y + 1)) (f.take (y + 1)) r) := ⟨by rw [HSF.out.1]; simp, by rw [HSF.out.2]; simp⟩
            clear HSF
            go_wp2_with fail
            go_quiet (exact Calls.quiet_of (HC.out _))
            go_wp2
            go_roundw
            case rel => exact ⟨y + 1, P, F, by omega, by go_num, rfl, rfl, HI, Dr.drewN hd _⟩
            case measure => simp [intOf]; omega
          · rw [hmx] at HC HSF
            clear hmx
            cases P <;> cases F <;> cases g
            all_goals
              have HI := HSF
              clear HSF
              go_wp2_with fail
              go_quiet (exact Calls.quiet_of (HC.out _))
              go_wp2
              go_roundw
              case rel => exact ⟨y + 1, _, _, by omega, by go_num, rfl, rfl, ⟨by rw [HI.out.1]; rfl, by rw [HI.out.2]; rfl⟩, Dr.drewN hd _⟩
              case measure => simp [intOf]; omega
        · have HPF2 : Hid (susF s f r = (F && !P)) := by
            have h := HPF.out
            have h5 := HN.out
            have h6 := HF.out
            rw [mtB_end (by omega) (by omega), mtB_end (by omega) (by omega)] at h
            show _ = _
            unfold susF
            rw [← h.1, ← h.2]
          have hr3 := hr1.dr hd
          have hz3 := Dr.le hd
          have hcell3 : wr.cell? ⟨b, o + k, none⟩ = _ := ((Dr.below hd wo.heap.size).cell (p := ⟨b, o + k, none⟩) (by show b < _; omega)).trans hcell
          have hown2 := hown.below (Dr.below hd _) (by omega)
          have hK2 := hK.trans (Kp.ofBelow (Dr.below hd _))
          clear HPF hK hown hcell hd hr1 hs3 hf3
          cases hsu : susF s f r
          · have HC := Lib.hid hsu
            have HM := Lib.hid (flt_skip (f := susF s f) hx.out HC.out)
            rw [← HM.out] at hown2
            rw [hsu] at HPF2
            clear hsu
            cases F <;> cases P
            case true.false => exact absurd HPF2.out (by decide)
            all_goals
              go_wp2
              go_roundw
              case rel => exact ⟨k + 1, by omega, by go_num, hown2, hK2⟩
              case measure => simp [intOf]; omega
          · have HC := Lib.hid hsu
            have HM := Lib.hid (flt_step (f := susF s f) hx.out HC.out)
            rw [hsu] at HPF2
            clear hsu
            cases F <;> cases P
            case true.false =>
              go_wp2_with (first
                | (at_builtin; refine wpList_appR1 rfl (.tmp 61) (.tmp 66) rfl w.heap.size (w.heap.size + 1) w1.heap.size _ ((ps.take k).filter (susF s f)) rfl hown2 (by omega) (by omega) r a3 r.length c3 rfl hr3 hcp wr.heap.size rfl rfl (by omega) ?_; intro v3 w3 hown3 hk3 _)
                | go_in)
              rw [← HM.out] at hown3
              have hK3 := hK2.trans hk3
              clear hK2 hk3 hown2
              go_roundw
              case rel => exact ⟨k + 1, by omega, by go_num, hown3, hK3⟩
              case measure => simp [intOf]; omega
            all_goals exact absurd HPF2.out (by decide)
    · have HKE : Hid (ps.take k = ps) := List.take_of_length_le (by omega)
      have HMI : Hid (susP m s f t = ps.filter (susF s f)) := by show _ = _; unfold susP; rw [HPS.out]
      go_wp2
      rw [HKE.out] at hown
      obtain ⟨a4, c4, rfl, ho4⟩ := hown.slice (by omega) (by omega)
      go_ret
      rw [HMI.out]
      exact ⟨_, _, rfl, ho4, hb01.trans ((hK.below (by omega)))⟩

set_option maxHeartbeats 1000000 in
theorem s_SuspectsOf {m : List Int} {s : List (List Int)} {f : List Bool} {a a1 a2 : Option Addr} {c c1 c2 lo hi lo1 hi1 lo2 hi2 : Nat} {w : World} {t : Int} (hm : RI w lo hi a m) (hlm : m.length ≤ 9223372036854775807) (hs : RII w lo1 hi1 a1 s) (hls : s.length ≤ 9223372036854775807) (hg : ∀ r ∈ s, r.length ≤ 9223372036854775807) (hf : RBo w lo2 hi2 a2 f) (hlf : f.length ≤ 9223372036854775807) (_ht0 : -9223372036854775808 ≤ t) (_ht1 : t ≤ 9223372036854775807) (hB : hi ≤ w.heap.size) (hB1 : hi1 ≤ w.heap.size) (hB2 : hi2 ≤ w.heap.size) :
    Calls Try.prog 96 #[.slice a m.length c, .slice a1 s.length c1, .slice a2 f.length c2, .int .i64 t] w (GotII w (suL m s f t)) := by
  have HG := Lib.hid hg; clear hg
  cases hj : jdG m s f t
  · have HE : Hid (suL m s f t = []) := su_no hj
    have HJ := Lib.hid hj; clear hj
    go_enter Try.func96, Try.ntmps96
    go_wp2_with fail
    refine (s_goodFails hm hlm hs hls HG.out hlf).mono ?_
    rintro e w1 ⟨rfl, hd⟩
    rw [HJ.out]
    go_wp2
    go_ret
    exact GotII.none HE.out (Dr.below hd _)
  have HE : Hid (suL m s f t = susP m s f t) := su_yes hj
  have HJ := Lib.hid hj
  have hjm := jdG_m hj
  have HLF := Lib.hid hjm.2
  have hp := okC_parts hjm.1
  have HR := Lib.hid hp.2.2.2
  have HOK := Lib.hid hp.1
  have ht := hp.2.1
  have hsl := hp.2.2.1
  clear hj hjm hp
  go_enter Try.func96, Try.ntmps96
  go_wp2_with fail
  refine (s_goodFails hm hlm hs hls HG.out hlf).mono ?_
  rintro e w1 ⟨rfl, hd⟩
  rw [HJ.out]
  have hd : Dr w w1 := hd
  have hz1 := Dr.le hd
  go_wp2_with fail
  refine (s_suspects HOK.out (hm.dr hd) (by omega) (hs.dr hd) (by omega) (hf.dr hd) (by omega) HLF.out (by omega) HR.out ht.1 ht.2).mono ?_
  rintro e w4 ⟨a4, c4, rfl, h4, hb4⟩
  go_wp2
  go_ret
  rw [HE.out]
  exact ⟨_, _, rfl, h4.wide (by omega) (Nat.le_refl _), (Dr.below hd w.heap.size).trans (hb4.mono (by omega))⟩

set_option maxHeartbeats 1000000 in
theorem s_same {s : List (List Int)} {f : List Bool} {p : List Int} {a a1 a2 : Option Addr} {c c1 c2 lo hi lo1 hi1 lo2 hi2 : Nat} {w : World} (hs : RII w lo1 hi1 a1 s) (hf : RBo w lo2 hi2 a2 f) (hp : RI w lo hi a p) (hlen : f.length = s.length) (hsl : s.length ≤ 1048576) (hr : ∀ r ∈ s, r.length = p.length) (hpl : p.length ≤ 1048576) :
    Calls Try.prog 207 #[.slice a1 s.length c1, .slice a2 f.length c2, .slice a p.length c] w (RO w (.bool (culF s f p))) := by
  have HR := Lib.hid hr
  obtain ⟨N, hN⟩ : ∃ N, s.length = N := ⟨_, rfl⟩
  have HN := Lib.hid hN
  have HF : Hid (f.length = N) := by show _ = _; omega
  have hNl : N ≤ 1048576 := by omega
  rw [HF.out, hN]
  clear hr hN hlen hsl
  go_enter Try.func207, Try.ntmps207
  go_wp2
  go_loopw [7] (fun j wr => ∃ y : Nat, y ≤ N ∧ j = .int .i64 y ∧ Hid (culF (s.take y) (f.take y) p = true) ∧ Dr w wr) (fun j _ => N - (intOf j).toNat)
  case atStart => exact ⟨0, Nat.zero_le _, rfl, culF_zero, Dr.refl _⟩
  case round =>
    obtain ⟨y, hy, rfl, HC0, hd⟩ := hrel
    by_cases hyk : y < N
    · obtain ⟨b2, o2, a4, c4, x, ha4, _, _, hc4, hx4, hxx⟩ := (hs.dr hd).at (show y < s.length by have := HN.out; omega)
      obtain ⟨b5, o5, g, ha5, _, _, hc5, hgg⟩ := (hf.dr hd).at (show y < f.length by have := HF.out; omega)
      have hi4 := idxII ha4 hyk c1
      have hi5 := idxBo ha5 hyk c2
      have hxl := HR.out x (List.mem_of_getElem? hxx.out)
      have hp2 := hp.dr hd
      have HST : Hid (culF (s.take (y + 1)) (f.take (y + 1)) p = (mB p x == g)) := by
        show _ = _; rw [culF_step hxx.out hgg.out, HC0.out, Bool.true_and]
      have HBAD : Hid (mB p x ≠ g → culF s f p = false) := fun h => culF_fails hxx.out hgg.out h
      have HC := Lib.hid (fun nn => s_matches (c := c) (c' := c4) (hp2.drewN nn) (hx4.drewN nn) (by omega) (by omega))
      clear ha4 ha5 hp2 hx4 hxl hxx hgg HC0
      cases hmx : mB p x <;> cases g
      all_goals
        rw [hmx] at HC HST HBAD
        clear hmx
        go_wp2_with fail
        go_quiet (exact Calls.quiet_of (HC.out _))
        go_wp2
        first
          | (go_ret; exact Dr.boolD (b := false) (Dr.drewN hd _) (HBAD.out (by decide)).symm)
          | (go_roundw
             case rel => exact ⟨y + 1, by omega, by go_num, HST.out, Dr.drewN hd _⟩
             case measure => simp [intOf]; omega)
    · have HE : Hid (culF s f p = true) := by
        have h := HC0.out
        rwa [culF_end (by have := HN.out; omega) (by have := HF.out; omega)] at h
      go_wp2
      go_ret
      exact Dr.boolD (b := true) hd HE.out.symm

set_option maxRecDepth 100000 in
set_option maxHeartbeats 4000000 in
theorem s_CulpritsOf {m : List Int} {s : List (List Int)} {f : List Bool} {a a' a2 : Option Addr} {c c' cf lo hi lo' hi' lo2 hi2 : Nat} {w : World} {t : Int} (hm : RI w lo hi a m) (hlm : m.length ≤ 9223372036854775807) (hs : RII w lo' hi' a' s) (hls : s.length ≤ 9223372036854775807) (hg : ∀ r ∈ s, r.length ≤ 9223372036854775807) (hf : RBo w lo2 hi2 a2 f) (hlf : f.length ≤ 9223372036854775807) (_ht0 : -9223372036854775808 ≤ t) (_ht1 : t ≤ 9223372036854775807) (hB : hi ≤ w.heap.size) (hB' : hi' ≤ w.heap.size) (hB2 : hi2 ≤ w.heap.size) :
    Calls Try.prog 102 #[.slice a m.length c, .slice a' s.length c', .slice a2 f.length cf, .int .i64 t] w (GotII w (cuL m s f t)) := by
  have HG := Lib.hid hg; clear hg
  cases hj : jdG m s f t
  · have HE : Hid (cuL m s f t = []) := cu_no hj
    have HJ := Lib.hid hj; clear hj
    go_enter Try.func102, Try.ntmps102
    go_wp2_with fail
    refine (s_goodFails hm hlm hs hls HG.out hlf).mono ?_
    rintro e w1 ⟨rfl, hd⟩
    rw [HJ.out]
    go_wp2
    go_ret
    exact GotII.none HE.out (Dr.below hd _)
  have HE : Hid (cuL m s f t = culP m s f t) := cu_yes hj
  have HJ := Lib.hid hj
  have hjm := jdG_m hj
  have HLF := Lib.hid hjm.2
  have hp := okC_parts hjm.1
  have HR := Lib.hid hp.2.2.2
  have HOK := Lib.hid hp.1
  have hm5 := okM_len hp.1
  have ht := hp.2.1
  have hsl := hp.2.2.1
  have HRow := Lib.hid (patS_row (m := m) (t := t))
  have HLN := Lib.hid (patS_len (head := []) HOK.out t)
  clear hj hjm hp
  go_enter Try.func102, Try.ntmps102
  go_wp2_with fail
  refine (s_goodFails hm hlm hs hls HG.out hlf).mono ?_
  rintro e w00 ⟨rfl, hd0⟩
  rw [HJ.out]
  have hd0 : Dr w w00 := hd0
  have hz0 := Dr.le hd0
  have hbz := Dr.below hd0 w.heap.size
  have hbA := (Below.refl w00.heap.size w00).alloc (Nat.le_refl _) (.cells #[] 23)
  have hbB := ((Below.refl w00.heap.size w00).alloc (Nat.le_refl _) (.cells #[] 23)).alloc (by simp) (.cells #[] 3)
  have hm3 := (hm.dr hd0).below hbB (by omega)
  have hs00 := hs.dr hd0
  have hf00 := hf.dr hd0
  clear hm hs hf
  go_wp2_with fail
  refine (s_patterns HOK.out m.length [] a ⟨w00.heap.size + 1, 0, none⟩ c 0 lo hi 0 0 _ t (by simp) hm3 (by simp; omega) (RI.nil _ _ _ _) (by simp) (by omega) (by omega)).mono ?_
  rintro e w1 ⟨ad1, c1, rfl, h1, hb1⟩
  obtain ⟨ps, hps⟩ : ∃ ps, patS m [] t = ps := ⟨_, rfl⟩
  have HPS := Lib.hid hps
  rw [hps] at h1 HRow HLN ⊢
  clear hps
  have hb1a : Below (w00.heap.size + 1) (w00.alloc (.cells #[] 23)) w1 := (((Below.refl _ (w00.alloc (.cells #[] 23))).alloc (Nat.le_refl _) (.cells #[] 3)).trans (hb1.mono (by simp))).mono (by simp)
  have hb01 : Below w00.heap.size w00 w1 := hbA.trans (hb1a.mono (by omega))
  have hs1 := hb1.size
  simp only [World.size_alloc] at hs1
  have hall : RII w1 (w00.heap.size + 1) w1.heap.size (some ad1) ps := by have := h1.rii; simp only [World.size_alloc] at this; exact this.wide (by omega) (Nat.le_refl _)
  have hst : OwnRR w1 w00.heap.size (w00.heap.size + 1) w1.heap.size (.slice (some ⟨w00.heap.size, 0, none⟩) 0 0) [] := OwnRR.start (Nat.le_refl _) (by omega) hb1a
  have hs2 : RII w1 lo' hi' a' s := hs00.below hb01 (by omega)
  have hf2 : RBo w1 lo2 hi2 a2 f := hf00.below hb01 (by omega)
  have hpl := HLN.out
  clear h1 hb1 hbA hbB hm3 hs00 hf00 hb1a
  go_wp2
  go_loopw [9, 11] (fun v i wr => ∃ k : Nat, k ≤ ps.length ∧ i = .int .i64 k ∧ OwnRR wr w00.heap.size (w00.heap.size + 1) w1.heap.size v ((ps.take k).filter (culF s f)) ∧ Kp w00.heap.size (w00.heap.size + 1) w1.heap.size w1 wr) (fun _ i _ => ps.length - (intOf i).toNat)
  case atStart => exact ⟨0, Nat.zero_le _, rfl, by simpa using hst, Kp.refl _ _ _ _⟩
  case round =>
    clear hst
    obtain ⟨k, hk, rfl, hown, hK⟩ := hrel
    have hsz := hK.size
    by_cases hlt : k < ps.length
    · obtain ⟨b, o, a3, c3, r, ha, hbl, hbh, hcell, hr1, hx, hcp⟩ := (hall.kp hK (Nat.le_refl _)).atc hlt
      have hidx := idxII ha hlt c1
      have HRL := Lib.hid (HRow.out r (List.mem_of_getElem? hx.out))
      have hs3 : RII wr lo' hi' a' s := hs2.same fun j h1 h2 => (hK.below (by omega)).block j (by omega)
      have hf3 : RBo wr lo2 hi2 a2 f := hf2.same fun j h1 h2 => (hK.below (by omega)).block j (by omega)
      have hml := flt_len (culF s f) ps k
      have HSM := Lib.hid (s_same (c := c3) (c1 := c') (c2 := cf) hs3 hf3 hr1 HLF.out (by omega) (fun q hq => by have := HR.out q hq; have := HRL.out; omega) (by have := HRL.out; omega))
      clear ha hall hs2 hf2 hs3 hf3
      cases hc : culF s f r
      · have HC := Lib.hid hc; clear hc
        have HM := Lib.hid (flt_skip (f := culF s f) hx.out HC.out)
        go_wp2_with fail
        refine HSM.out.mono ?_
        rintro e w2 ⟨rfl, hd⟩
        rw [HC.out]
        have hown2 := hown.below (Dr.below hd _) (by omega)
        rw [← HM.out] at hown2
        have hK2 := hK.trans (Kp.ofBelow (Dr.below hd _))
        clear hK hown
        go_wp2
        go_roundw
        case rel => exact ⟨k + 1, by omega, by go_num, hown2, hK2⟩
        case measure => simp [intOf]; omega
      · have HC := Lib.hid hc; clear hc
        have HM := Lib.hid (flt_step (f := culF s f) hx.out HC.out)
        go_wp2_with (first
          | (go_at_call 207; refine HSM.out.mono ?_; rintro e w2 ⟨rfl, hd⟩; rw [HC.out]; have hown2 := hown.below (Dr.below hd _) (by omega); have hz2 := Dr.le hd; have hr2 := hr1.dr hd; have hcell2 : w2.cell? ⟨b, o + k, none⟩ = _ := ((Dr.below hd wr.heap.size).cell (p := ⟨b, o + k, none⟩) (by show b < _; omega)).trans hcell; have hB02 := Dr.below hd wr.heap.size; clear hd)
          | (at_builtin; refine wpList_appR1 rfl (.tmp 36) (.tmp 41) rfl w00.heap.size (w00.heap.size + 1) w1.heap.size _ ((ps.take k).filter (culF s f)) rfl hown2 (by omega) (by omega) r a3 r.length c3 rfl hr2 hcp w2.heap.size rfl rfl (by omega) ?_; intro v3 w3 hown3 hk3 _)
          | go_in)
        rw [← HM.out] at hown3
        have hK3 := hK.trans ((Kp.ofBelow hB02).trans hk3)
        clear hK hk3 hown hown2
        go_roundw
        case rel => exact ⟨k + 1, by omega, by go_num, hown3, hK3⟩
        case measure => simp [intOf]; omega
    · have HKE : Hid (ps.take k = ps) := List.take_of_length_le (by omega)
      have HMI : Hid (culP m s f t = ps.filter (culF s f)) := by show _ = _; unfold culP; rw [HPS.out]
      go_wp2
      rw [HKE.out] at hown
      obtain ⟨a4, c4, rfl, ho4⟩ := hown.slice (by omega) (by omega)
      go_ret
      rw [HE.out, HMI.out]
      exact ⟨_, _, rfl, ho4.wide (by omega) (Nat.le_refl _), hbz.trans ((hb01.trans ((hK.below (by omega)))).mono (by omega))⟩

end Go.Proofs.Ytehoagbpgahopaa
