/- Walks: all tests of a model, one after the other, by an iterator. -/
import Derived.Shelf.Abstract
import Derived.Shelf.RegionOpen
import Derived.OwnWalkIn
import Derived.TacticsInMore
import Derived.LoopNIn
import Derived.LoopIn
import Derived.Test.YtekkhadlchfjnaaZg
import Derived.Test.YtekkhadlchfjnaaZs
import Derived.Test.YtekkhadlchfjnaaWu
import Derived.Test.YtekkhadlchfjnaaWc
namespace Go.Proofs.Ytekkhadlchfjnaa
open Go.RowKit Go.Shelf

attribute [local go_sem] Oper.semAt_some

/-- the least number of which something holds -/
noncomputable def lst (P : Nat → Prop) : Nat := by
  classical
  exact if h : ∃ n, P n ∧ ∀ m, m < n → ¬ P m then Classical.choose h else 0
theorem lst_ex {P : Nat → Prop} {n : Nat} (h : P n) : ∃ n, P n ∧ ∀ m, m < n → ¬ P m := by
  induction n using Nat.strongRecOn with
  | ind n ih =>
    by_cases hx : ∃ m, m < n ∧ P m
    · obtain ⟨m, h1, h2⟩ := hx
      exact ih m h1 h2
    · exact ⟨n, h, fun m h1 h2 => hx ⟨m, h1, h2⟩⟩
theorem lst_spec {P : Nat → Prop} {n : Nat} (h : P n) : P (lst P) := by
  unfold lst; rw [dif_pos (lst_ex h)]; exact (Classical.choose_spec (lst_ex h)).1
theorem lst_le {P : Nat → Prop} {n : Nat} (h : P n) : lst P ≤ n := by
  have hx := lst_ex h
  have h2 : ¬ n < lst P := by
    unfold lst; rw [dif_pos hx]
    intro hl
    exact (Classical.choose_spec hx).2 n hl h
  omega

theorem i_testsOf {m : List Int} {a : Option Addr} {c : Nat} {w : World} :
    Calls Try.prog 108 #[.slice a m.length c] w (fun e w' => e = .returned (.func (.func 156) #[] #[.pointer (some ⟨w.heap.size, 0, none⟩)]) ∧ w' = w.alloc (.cells #[.slice a m.length c] 23)) := by
  go_enter Try.func108, Try.ntmps108
  go_wp2
  go_ret
  exact ⟨rfl, rfl⟩

/-- the cells of the test between two rounds, and while the next one is sought -/
def TsB (m : List Int) (xs : List (List Int)) (J : List (List Int) → World → Prop) (B n₀ : Nat) (w : World) (q : Nat) (wr : World) : Prop :=
  ∃ (k : Nat) (x : List Int), q = xs.length - k ∧ Hid (xs[k]? = some x) ∧ J (xs.take k) wr ∧ wr.heap[B]? = some (.cells #[.int .i64 (at5 x 0), .int .i64 (at5 x 1), .int .i64 (at5 x 2), .int .i64 (at5 x 3), .int .i64 (at5 x 4)] 72 (0, 0)) ∧ Below n₀ w wr

/-- zeros from k on -/
def zerT (x : List Int) (k : Nat) (i : Nat) : Int := if k ≤ i then 0 else at5 x i
/-- one place of an array written -/
def putT (T : Nat → Int) (f : Nat) (v : Int) (i : Nat) : Int := if i = f then v else T i
theorem setQ {w : World} {b t : Nat} {T : Nat → Int} (h : w.heap[b]? = some (.cells #[.int .i64 (T 0), .int .i64 (T 1), .int .i64 (T 2), .int .i64 (T 3), .int .i64 (T 4)] t (0, 0))) {f : Nat} (hf : f < 5) (v : Int) :
    (w.setCell ⟨b, f, none⟩ (.int .i64 v)).heap[b]? = some (.cells #[.int .i64 (putT T f v 0), .int .i64 (putT T f v 1), .int .i64 (putT T f v 2), .int .i64 (putT T f v 3), .int .i64 (putT T f v 4)] t (0, 0)) := by
  simp only [World.setCell, Array.getElem?_modify, if_true]
  rw [h]
  match f, hf with
  | 0, _ => rfl
  | 1, _ => rfl
  | 2, _ => rfl
  | 3, _ => rfl
  | 4, _ => rfl
theorem zer_put (x : List Int) (q : Nat) (i : Nat) : putT (zerT x (q + 1)) q 0 i = zerT x q i := by
  unfold putT zerT
  by_cases h1 : i = q
  · subst h1; rw [if_pos rfl, if_pos (Nat.le_refl _)]
  · rw [if_neg h1]
    by_cases h2 : q ≤ i
    · rw [if_pos (by omega), if_pos h2]
    · rw [if_neg (by omega), if_neg h2]
theorem zer_all {x : List Int} {n : Nat} (h : x.length = n) (i : Nat) : zerT x n i = at5 x i := by
  unfold zerT
  split
  · rw [at5_out (by omega)]
  · rfl
theorem rep5 (n : Nat) (i : Nat) : at5 (List.replicate n 0) i = 0 := by
  unfold at5 List.getD
  rw [List.getElem?_replicate]
  split <;> rfl
/-- the next test, as the array has it -/
theorem suc_put {m x : List Int} {xs : List (List Int)} {k q : Nat} (hch : Chc (sucL m) xs none) (hx : xs[k]? = some x) (hl : x.length = m.length) (hq : q < m.length) (hA : ∀ g, q + 1 ≤ g → g < m.length → at5 x g = at5 m g - 1) (hlt : at5 x q + 1 < at5 m q) :
    ∃ r, xs[k + 1]? = some r ∧ ∀ i, putT (zerT x (q + 1)) q (at5 x q + 1) i = at5 r i := by
  obtain ⟨r, h1, _, h3⟩ := suc_some (ms := m) (t := x) (f := q) hl hq (fun g h1 h2 => hA g h1 h2) hlt
  refine ⟨r, (Chc.at hch hx).symm.trans h1, fun i => ?_⟩
  rw [h3 i]
  unfold putT zerT
  by_cases h1 : i = q
  · rw [if_pos h1, if_pos h1]
  · rw [if_neg h1, if_neg h1]
    by_cases h2 : q < i
    · rw [if_pos (by omega), if_pos h2]
    · rw [if_neg (by omega), if_neg h2]
theorem suc_end {m x : List Int} {xs : List (List Int)} {k : Nat} (hch : Chc (sucL m) xs none) (hx : xs[k]? = some x) (hl : x.length = m.length) (hA : ∀ g, 0 ≤ g → g < m.length → at5 x g = at5 m g - 1) : xs.take (k + 1) = xs := by
  have h1 := (Chc.at hch hx).symm.trans (suc_none (ms := m) (t := x) hl fun g hg => hA g (Nat.zero_le _) hg)
  rw [List.getElem?_eq_none_iff] at h1
  exact List.take_of_length_le (by omega)

set_option maxRecDepth 100000 in
set_option maxHeartbeats 2000000 in
theorem testsOf1_seq {m : List Int} {a : Option Addr} {c lo hi b n₀ : Nat} {w : World} (hok : okM m = true) (hm : RI w lo hi a m) (hB : hi ≤ n₀) (hb : w.heap[b]? = some (.cells #[.slice a m.length c] 23 (0, 0))) (hbn : b < n₀) (hn : n₀ ≤ w.heap.size) :
    SeqO Try.prog 156 #[.pointer (some ⟨b, 0, none⟩)] (fun x : List Int => #[.agg #[.int .i64 (at5 x 0), .int .i64 (at5 x 1), .int .i64 (at5 x 2), .int .i64 (at5 x 3), .int .i64 (at5 x 4)]]) (extS m []) n₀ 0 0 1 w := by
  intro n l J Jx W hW hJ hY h0
  have hxr : ∀ x ∈ extS m [], okT m x = true := fun x hx => (ext_mem hok).1 hx
  obtain ⟨xs, hxs⟩ : ∃ xs, extS m [] = xs := ⟨_, rfl⟩
  rw [hxs] at hY hxr ⊢
  obtain ⟨hch, r0, hr0⟩ := ext_ch hok
  rw [hxs] at hch hr0
  have hm5 := okM_len hok
  have HCH := Lib.hid hch
  have HR0 := Lib.hid hr0
  have HOK := Lib.hid hok
  have HXR := Lib.hid hxr
  clear hch hr0 hxs hok hxr
  have hws := hW.size
  have hwl : IntKind.i64.wrap ((m.length : Int) - 1) = (m.length : Int) - 1 := IntWalk.i64_in _ (by omega)
  refine callsIn_of_wp Try.func156 rfl trivial ?_ rfl
  simp only [Try.ntmps156, List.size_toArray, List.length_cons, List.length_nil, Nat.reduceAdd, Nat.reduceSub, Array.replicate_succ, Array.replicate_zero, List.push_toArray, List.append_toArray, List.nil_append, List.cons_append]
  gi_wp2
  gi_loopw [] (fun wr => ∃ q, TsB m xs J W.heap.size n₀ w q wr) (fun wr => lst (fun q => TsB m xs J W.heap.size n₀ w q wr))
  case atStart =>
    refine ⟨_, 0, List.replicate m.length 0, rfl, ?_, ?_, ?_, ?_⟩
    · show _ = _; rw [HR0.out]; rfl
    · exact hJ _ _ _ h0 ((Up2.refl _ _ _ _ W).alloc _)
    · simp only [rep5]; exact heap_alloc_new _ _
    · exact hW.trans ((Below.refl n₀ W).alloc (by omega) _)
  case round =>
    obtain ⟨q0, hq0⟩ := hrel
    have hq := lst_spec (P := fun q => TsB m xs J W.heap.size n₀ w q wr) hq0
    obtain ⟨q, hqq⟩ : ∃ q, lst (fun q => TsB m xs J W.heap.size n₀ w q wr) = q := ⟨_, rfl⟩
    rw [hqq] at hq
    clear hq0
    obtain ⟨k, x, hqk, hx, hj, hcl, hbw⟩ := hq
    have HQ := Lib.hid hqq
    have hkl := lt_of_at hx.out
    have hxT := HXR.out x (List.mem_of_getElem? hx.out)
    have hxl : x.length = m.length := okW_len hxT
    obtain ⟨t0, t1, t2, t3, t4⟩ := cells5' hcl
    have hBs : W.heap.size < wr.heap.size := (Array.getElem?_eq_some_iff.1 hcl).1
    obtain ⟨fn, tmps, assign, body, hy, hR⟩ := hY (xs.take k) x wr hj (by rw [← take_snoc hx.out]; exact List.take_prefix _ _) (by omega)
    rw [← take_snoc hx.out] at hR
    try dsimp only at hy
    have HCL := Lib.hid hcl
    have HXT := Lib.hid hxT
    have HXL := Lib.hid hxl
    have HQK := Lib.hid hqk
    clear hcl hqq hxT hxl hqk
    gi_wp2
    refine hR.mono ?_
    rintro e W3 (⟨rfl, hj3, hk3, hb3⟩ | ⟨rfl, hx3⟩)
    · clear hR hy t0 t1 t2 t3 t4
      have hcl3 := (hk3 W.heap.size (Nat.le_refl _) (by omega)).trans HCL.out
      have hbw3 := hbw.trans hb3
      have hcb : W3.cell? ⟨b, 0, none⟩ = some (.slice a m.length c) := by
        rw [cell_of_row _ _ 0 _ _ _ ((hbw3.block b hbn).trans hb)]; rfl
      have HC3 := Lib.hid hcl3
      clear hcl3 hk3 hb3 hj
      gi_wp2
      obtain ⟨wo, rfl⟩ : ∃ x : World, x = wr := ⟨_, rfl⟩
      refine wpIn_wide.2 ?_
      go_loopw [4] (fun f wr => ∃ k1 : Nat, k1 ≤ m.length ∧ ((k1 = 0 ∧ f = .int .i64 (-1)) ∨ ∃ q : Nat, k1 = q + 1 ∧ f = .int .i64 (q : Int)) ∧
        wr.heap[W.heap.size]? = some (.cells #[.int .i64 (zerT x k1 0), .int .i64 (zerT x k1 1), .int .i64 (zerT x k1 2), .int .i64 (zerT x k1 3), .int .i64 (zerT x k1 4)] 72 (0, 0)) ∧ J (xs.take (k + 1)) wr ∧ Below n₀ w wr ∧
        Hid (∀ g, k1 ≤ g → g < m.length → at5 x g = at5 m g - 1)) (fun f _ => (intOf f + 1).toNat)
      case atStart =>
        refine ⟨m.length, Nat.le_refl _, .inr ⟨m.length - 1, by omega, by go_num⟩, ?_, hj3, hbw3, fun g h1 h2 => by omega⟩
        simp only [zer_all HXL.out]; exact HC3.out
      case round =>
        clear hj3 hbw3 hcb
        obtain ⟨k1, hk1, hf, e3, hj1, hB1, hA⟩ := hrel
        have hcb : wr.cell? ⟨b, 0, none⟩ = some (.slice a m.length c) := by
          rw [cell_of_row _ _ 0 _ _ _ ((hB1.block b hbn).trans hb)]; rfl
        have hBr : W.heap.size < wr.heap.size := (Array.getElem?_eq_some_iff.1 e3).1
        rcases hf with ⟨hk0, rfl⟩ | ⟨f, hkq, rfl⟩
        · have E3 := Lib.hid e3
          have hfin : Hid (xs.take (k + 1) = xs) := suc_end HCH.out hx.out HXL.out (fun g _ hg => hA.out g (by omega) hg)
          clear e3
          have hneg : decide ((0 : Int) ≤ -1) = false := by decide
          have hneg2 : decide ((-1 : Int) < 0) = true := by decide
          go_wp2_with fail
          go_quiet (fail)
          go_wp2
          gi_wp2
          refine bodyPost_ret (results_none rfl _ _ _) rfl ?_
          refine ⟨⟨_, rfl⟩, .inl ?_⟩
          rw [hfin.out] at hj1
          exact hJ _ _ _ hj1 ((Up2.refl _ _ _ _ wr).dr (Dr.drewN (Dr.refl wr) _))
        · have hqm : f < m.length := by omega
          have hq5 : f < 5 := by omega
          have hi3 := idxAt5 W.heap.size hq5
          have hcT : wr.cell? ⟨W.heap.size, f, none⟩ = some (.int .i64 (at5 x f)) := by
            rw [cell5 e3 hq5]; unfold zerT; rw [if_neg (by omega)]
          have hfT := frozen5 e3 f
          obtain ⟨bm, om, hma, _, _, y, hy, hym⟩ := (hm.below hB1 hB) f hqm
          have hym : wr.cell? ⟨bm, om + f, none⟩ = some (.int .i64 y) := hym
          have hidm := idxI hma hqm c
          have hyv : at5 m f = y := at5_of hy
          have hyb := okM_at HOK.out hy
          have hxb := okW_at5 HXT.out hqm
          rw [hyv] at hxb
          have hwy := wrap_pred hyb.1 hyb.2
          have hpos : decide ((0 : Int) ≤ (f : Int)) = true := by simp
          have hneg2 : decide ((f : Int) < 0) = false := decide_eq_false (by omega)
          have E3 := Lib.hid e3; have HYV := Lib.hid hyv; have HKQ := Lib.hid hkq
          clear e3 hma hm hy hyv
          by_cases hlt : at5 x f = y - 1
          · have hcc : (at5 x f == y - 1) = true := by rw [hlt]; exact beq_self_eq_true _
            have HLT := Lib.hid hlt
            clear hlt
            go_wp2_with fail
            go_quiet (fail)
            go_wp2
            go_roundw
            case rel =>
              have e3 : ∀ N, (wr.drewN N).heap[W.heap.size]? = some (.cells #[.int .i64 (zerT x (f + 1) 0), .int .i64 (zerT x (f + 1) 1), .int .i64 (zerT x (f + 1) 2), .int .i64 (zerT x (f + 1) 3), .int .i64 (zerT x (f + 1) 4)] 72 (0, 0)) := fun N => by have := E3.out; rw [HKQ.out] at this; exact this
              have hz : ∀ N, ((wr.drewN N).setCell ⟨W.heap.size, f, none⟩ (.int .i64 0)).heap[W.heap.size]? = some (.cells #[.int .i64 (zerT x f 0), .int .i64 (zerT x f 1), .int .i64 (zerT x f 2), .int .i64 (zerT x f 3), .int .i64 (zerT x f 4)] 72 (0, 0)) := fun N => by
                have := setQ (e3 N) hq5 0
                simp only [zer_put] at this
                exact this
              refine ⟨f, by omega, ?_, ?_, ?_, ?_, fun g h1 h2 => ?_⟩
              · cases f with
                | zero => exact .inl ⟨rfl, by go_num⟩
                | succ f => exact .inr ⟨f, rfl, by go_num⟩
              · exact hz _
              · exact hJ _ _ _ hj1 (((Up2.refl _ _ _ _ wr).dr (Dr.drewN (Dr.refl wr) _)).set _ (.inr ⟨Nat.le_refl _, Nat.lt_succ_self _⟩))
              · exact (hB1.trans (Dr.below (Dr.drewN (Dr.refl wr) _) _)).setCell (by simp; omega) _
              · by_cases h4 : g = f
                · subst h4; rw [HYV.out]; exact HLT.out
                · exact hA.out g (by omega) h2
            case measure => simp [intOf]
          · have hcc : (at5 x f == y - 1) = false := beq_eq_false_iff_ne.2 hlt
            have HLT : Hid (at5 x f + 1 < at5 m f) := by show _ < _; rw [HYV.out]; omega
            clear hlt
            obtain ⟨r, hr1, hr2⟩ := suc_put HCH.out hx.out HXL.out hqm (fun g h1 h2 => hA.out g (by omega) h2) HLT.out
            have HR1 := Lib.hid hr1
            have HR2 := Lib.hid hr2
            have hrl := lt_of_at hr1
            have hwx : IntKind.i64.wrap (at5 x f + 1) = at5 x f + 1 := IntWalk.i64_in _ (by omega)
            clear hr1 hr2
            go_wp2_with fail
            go_quiet (fail)
            go_wp2
            gi_wp2
            have hnew : ∀ N, TsB m xs J W.heap.size n₀ w (xs.length - (k + 1)) ((wr.drewN N).setCell ⟨W.heap.size, f, none⟩ (.int .i64 (at5 x f + 1))) := fun N => by
              have e3 : (wr.drewN N).heap[W.heap.size]? = some (.cells #[.int .i64 (zerT x (f + 1) 0), .int .i64 (zerT x (f + 1) 1), .int .i64 (zerT x (f + 1) 2), .int .i64 (zerT x (f + 1) 3), .int .i64 (zerT x (f + 1) 4)] 72 (0, 0)) := by have := E3.out; rw [HKQ.out] at this; exact this
              refine ⟨k + 1, r, rfl, HR1.out, ?_, ?_, ?_⟩
              · exact hJ _ _ _ hj1 (((Up2.refl _ _ _ _ wr).dr (Dr.drewN (Dr.refl wr) _)).set _ (.inr ⟨Nat.le_refl _, Nat.lt_succ_self _⟩))
              · have := setQ e3 hq5 (at5 x f + 1)
                simp only [HR2.out] at this
                exact this
              · exact (hB1.trans (Dr.below (Dr.drewN (Dr.refl wr) _) _)).setCell (by simp; omega) _
            go_roundw
            case rel => exact ⟨_, hnew _⟩
            case measure =>
              rw [HQ.out, HQK.out]
              exact Nat.lt_of_le_of_lt (lst_le (hnew _)) (by omega)
    · gi_wp2
      go_end0
      exact ⟨⟨_, rfl⟩, .inr ⟨_, List.take_prefix _ _, hx3⟩⟩

end Go.Proofs.Ytekkhadlchfjnaa
