/- Walks: lists of patterns, by the program. -/
import Derived.Test.YtpioldgpfpmjiaaGreatDoorOwnP
import Derived.Test.YtpioldgpfpmjiaaGreatDoorWq
namespace Go.Proofs.YtpioldgpfpmjiaaGreatDoor
open Go.RowKit

theorem cells5' {w : World} {b t : Nat} {P : Nat → Int} (h : w.heap[b]? = some (.cells #[.int .i64 (P 0), .int .i64 (P 1), .int .i64 (P 2), .int .i64 (P 3), .int .i64 (P 4)] t (0, 0))) :
    w.cell? ⟨b, 0, none⟩ = some (.int .i64 (P 0)) ∧ w.cell? ⟨b, 1, none⟩ = some (.int .i64 (P 1)) ∧ w.cell? ⟨b, 2, none⟩ = some (.int .i64 (P 2)) ∧ w.cell? ⟨b, 3, none⟩ = some (.int .i64 (P 3)) ∧ w.cell? ⟨b, 4, none⟩ = some (.int .i64 (P 4)) :=
  ⟨cell5 h (by omega), cell5 h (by omega), cell5 h (by omega), cell5 h (by omega), cell5 h (by omega)⟩
theorem frozen5 {w : World} {b t : Nat} {c : Array Value} (h : w.heap[b]? = some (.cells c t (0, 0))) (k : Nat) : w.frozen? ⟨b, k, none⟩ = false :=
  World.rowIs.frozen (t := t) (n := c.size) (f := fun i => c.getD i undef) ⟨c, h, rfl, fun i hi => by simp [Array.getD, hi]⟩ k

/-- what a call comes to that appends the patterns mm to v -/
def AddP (w : World) (B : Nat) (v : Value) (mm : List (List Int)) (e : Ending) (w' : World) : Prop := ∃ v', e = .returned v' ∧ OwnP w' B v' mm ∧ GrP w w' v v'

def AddOK (m : List Int) (n : Nat) : Prop := ∀ (head : List Int) (a : Option Addr) (c lo hi B : Nat) (w : World) (f t : Int) (v : Value) (ps : List (List Int)), f = head.length → head.length + n = m.length → RI w lo hi a m → hi ≤ B → B ≤ w.heap.size → OwnP w B v ps → ps.length + 4096 * (n + 1) ≤ 1099511627776 → 0 ≤ t → t ≤ n →
    Calls Tryz.prog 97 #[v, .slice a m.length c, .agg #[.int .i64 (at5 head 0), .int .i64 (at5 head 1), .int .i64 (at5 head 2), .int .i64 (at5 head 3), .int .i64 (at5 head 4)], .int .i64 f, .int .i64 t] w (AddP w B v (ps ++ patS m head t))

set_option maxHeartbeats 4000000 in
set_option maxRecDepth 100000 in
theorem i_addPatterns {m : List Int} (hok : okM m = true) : ∀ n, AddOK m n := by
  have HOK := Lib.hid hok
  have hm5 := okM_len hok
  clear hok
  intro n
  induction n with
  | zero =>
    intro head a c lo hi B w f t v ps hf hn hm hB hB' hown hps ht0 ht1
    obtain rfl : t = 0 := by omega
    subst hf
    have HP : Hid (patS m head 0 = [head]) := patS_end (by omega) rfl
    have hlen : ((head.length : Int) == (m.length : Int)) = true := by rw [beq_iff_eq]; omega
    have hown1 : OwnP (w.alloc (.cells #[.int .i64 (at5 head 0), .int .i64 (at5 head 1), .int .i64 (at5 head 2), .int .i64 (at5 head 3), .int .i64 (at5 head 4)] 130)) B v ps := World.ownsRow.alloc hown _
    have hps' : ps.length ≤ 1099511627776 := by omega
    clear hn hps
    go_enter Tryz.func97, Tryz.ntmps97
    go_wp2_with (at_builtin; refine wpList_appP rfl _ _ rfl B v ps rfl hown1 head _ rfl (by simp) hps' (by simp; omega) ?_; intro v' w1 hown2 hg2)
    go_ret
    rw [HP.out]
    exact ⟨v', rfl, hown2, ((GrP.refl w v).alloc _).trans hg2⟩
  | succ n ih =>
    intro head a c lo hi B w f t v ps hf hn hm hB hB' hown hps ht0 ht1
    subst hf
    have hhm : head.length < m.length := by omega
    have hf5 : head.length < 5 := by omega
    have HN := Lib.hid hn
    have hn1 : (m.length : Int) - head.length = (n : Int) + 1 := by omega
    have HN1 := Lib.hid hn1
    obtain ⟨b0, o0, y, ha0, hlo0, hhi0, hcell0, hy⟩ := hm.at hhm
    have hy3 := okM_at HOK.out hy.out
    have HP := Lib.hid (patS_step hy.out ht0 (show t ≤ (m.length : Int) - head.length by omega))
    have HK := Lib.hid (fun k => patK_len HOK.out (head := head) t k)
    have hlen : ((head.length : Int) == (m.length : Int)) = false := by rw [beq_eq_false_iff_ne]; omega
    have hidx0 := idxI ha0 hhm c
    have hidx5 := idxAt5 w.heap.size hf5
    have hlt0 := Lib.hid hown.lt
    have hGb : GrP w (w.alloc (.cells #[.int .i64 (at5 head 0), .int .i64 (at5 head 1), .int .i64 (at5 head 2), .int .i64 (at5 head 3), .int .i64 (at5 head 4)] 130)) v v := (GrP.refl w v).alloc _
    have hXb := heap_alloc_new w (.cells #[.int .i64 (at5 head 0), .int .i64 (at5 head 1), .int .i64 (at5 head 2), .int .i64 (at5 head 3), .int .i64 (at5 head 4)] 130)
    have hsb : w.heap.size + 1 ≤ (w.alloc (.cells #[.int .i64 (at5 head 0), .int .i64 (at5 head 1), .int .i64 (at5 head 2), .int .i64 (at5 head 3), .int .i64 (at5 head 4)] 130)).heap.size := by simp
    have hob : OwnP (w.alloc (.cells #[.int .i64 (at5 head 0), .int .i64 (at5 head 1), .int .i64 (at5 head 2), .int .i64 (at5 head 3), .int .i64 (at5 head 4)] 130)) B v ps := World.ownsRow.alloc hown _
    have hnb : Hid (v.ownBlock ≠ some w.heap.size) := fun e => by have := hlt0.out _ e; omega
    -- what is known of m in every world that comes of w
    have HM : Hid (∀ w' v', GrP w w' v v' → RI w' lo hi a m) := fun w' v' g => hm.same fun k _ hk => g.gr.block k (by omega) fun e => by have := hlt0.out k e.symm; omega
    have HC : Hid (∀ w' v', GrP w w' v v' → w'.cell? ⟨b0, o0 + head.length, none⟩ = some (.int .i64 y)) := fun w' v' g =>
      (World.cell?_of_block (w := w) (a := ⟨b0, o0 + head.length, none⟩) (g.gr.block b0 (by omega) fun e => by have := hlt0.out b0 e.symm; omega)).trans hcell0
    clear ha0 hcell0 hm hn hn1 hown
    -- one place of the box is written and the call made
    have STEP : Hid (∀ (wr : World) (lv : Value) (Q : Nat → Int) (x : Int), GrP w wr v lv → lv.ownBlock ≠ some w.heap.size → w.heap.size + 1 ≤ wr.heap.size → wr.heap[w.heap.size]? = some (.cells #[.int .i64 (Q 0), .int .i64 (Q 1), .int .i64 (Q 2), .int .i64 (Q 3), .int .i64 (Q 4)] 130 (0, 0)) → (∀ i, i ≠ head.length → Q i = at5 head i) →
        ∀ ps', OwnP wr B lv ps' → OwnP (wr.setCell ⟨w.heap.size, head.length, none⟩ (.int .i64 x)) B lv ps' ∧ GrP w (wr.setCell ⟨w.heap.size, head.length, none⟩ (.int .i64 x)) v lv ∧
          (wr.setCell ⟨w.heap.size, head.length, none⟩ (.int .i64 x)).heap[w.heap.size]? = some (.cells #[.int .i64 (at5 (head ++ [x]) 0), .int .i64 (at5 (head ++ [x]) 1), .int .i64 (at5 (head ++ [x]) 2), .int .i64 (at5 (head ++ [x]) 3), .int .i64 (at5 (head ++ [x]) 4)] 130 (0, 0)) ∧ w.heap.size + 1 ≤ (wr.setCell ⟨w.heap.size, head.length, none⟩ (.int .i64 x)).heap.size) := by
      intro wr lv Q x hg hne hs hb hQ ps' ho
      refine ⟨ho.kept fun k _ e => Below.heap_setCell _ _ _ _ (fun e2 => hne (by rw [e, e2])), hg.set (Nat.le_refl _) _, box_set hb rfl hf5 hQ, by simp [World.setCell]; exact hs⟩
    have AFTER : Hid (∀ (w1 w2 : World) (lv v2 : Value) (Q : Nat → Int), GrP w w1 v lv → lv.ownBlock ≠ some w.heap.size → w.heap.size + 1 ≤ w1.heap.size → w1.heap[w.heap.size]? = some (.cells #[.int .i64 (Q 0), .int .i64 (Q 1), .int .i64 (Q 2), .int .i64 (Q 3), .int .i64 (Q 4)] 130 (0, 0)) → GrP w1 w2 lv v2 →
        GrP w w2 v v2 ∧ v2.ownBlock ≠ some w.heap.size ∧ w.heap.size + 1 ≤ w2.heap.size ∧ w2.heap[w.heap.size]? = some (.cells #[.int .i64 (Q 0), .int .i64 (Q 1), .int .i64 (Q 2), .int .i64 (Q 3), .int .i64 (Q 4)] 130 (0, 0))) := by
      intro w1 w2 lv v2 Q hg hne hs hb hg2
      refine ⟨hg.trans hg2, fun e => ?_, Nat.le_trans hs hg2.gr.size, by rw [hg2.gr.block _ (by omega) (fun e => hne e.symm)]; exact hb⟩
      rcases hg2.at_ with h1 | ⟨g, h1, h2, _⟩
      · exact hne (h1.symm.trans e)
      · rw [h1] at e; cases e; omega
    have TAIL : Hid (∀ x i, i ≠ head.length → at5 (head ++ [x]) i = at5 head i) := by
      intro x i hi
      unfold at5 List.getD
      rw [List.getElem?_append]
      split
      · rfl
      · rw [List.getElem?_eq_none (by simp; omega), List.getElem?_eq_none (by omega)]
    by_cases htp : 0 < t
    · go_enter Tryz.func97, Tryz.ntmps97
      have hcb := HC.out _ _ hGb
      have HGb := Lib.hid hGb
      have HXb := Lib.hid hXb
      have Hob := Lib.hid hob
      clear hGb hXb hob
      go_wp2
      go_loopw [0, 26] (fun lv i wr => ∃ (k : Nat) (Q : Nat → Int), k ≤ y.toNat ∧ i = .int .i64 k ∧ Hid (OwnP wr B lv (ps ++ patK m head t k)) ∧ Hid (GrP w wr v lv) ∧ Hid (lv.ownBlock ≠ some w.heap.size) ∧ Hid (wr.heap[w.heap.size]? = some (.cells #[.int .i64 (Q 0), .int .i64 (Q 1), .int .i64 (Q 2), .int .i64 (Q 3), .int .i64 (Q 4)] 130 (0, 0))) ∧ Hid (∀ i, i ≠ head.length → Q i = at5 head i) ∧ w.heap.size + 1 ≤ wr.heap.size) (fun _ i _ => y.toNat - (intOf i).toNat)
      case atStart => exact ⟨0, at5 head, Nat.zero_le _, rfl, by simpa [Hid, patK] using Hob.out, HGb.out, hnb.out, HXb.out, fun _ _ => rfl, hsb⟩
      case round =>
        clear hcb
        obtain ⟨k, Q, hk, rfl, ho, hg, hne, hb, hQ, hs⟩ := hrel
        by_cases hlt : (k : Int) < y
        · have S := STEP.out wr u0 Q (k : Int) hg.out hne.out hs hb.out hQ.out _ ho.out
          have hcl := cell5 hb.out hf5
          have hfr := frozen5 hb.out head.length
          obtain ⟨g0, g1, g2, g3, g4⟩ := cells5' S.2.2.1
          have HS := Lib.hid S
          clear S
          go_wp2_with fail
          refine (ih (head ++ [(k : Int)]) a c lo hi B _ _ (t - 1) u0 (ps ++ patK m head t k) (by simp) (by simp; have := HN.out; omega) (HM.out _ _ HS.out.2.1) hB (by have := HS.out.2.2.2; omega) HS.out.1 (by have := HK.out k; rw [List.length_append]; omega) (by omega) (by omega)).mono ?_
          rintro e w2 ⟨v2, rfl, ho2, hg2⟩
          have hA := Lib.hid (AFTER.out _ w2 u0 v2 _ HS.out.2.1 hne.out HS.out.2.2.2 HS.out.2.2.1 hg2)
          have HO := Lib.hid ho2
          clear ho2 hg2 g0 g1 g2 g3 g4 hcl hfr
          have hs2 := hA.out.2.2.1
          have HO2 : Hid (OwnP w2 B v2 (ps ++ patK m head t (k + 1))) := by show OwnP _ _ _ _; rw [patK_succ, ← List.append_assoc]; exact HO.out
          clear HS
          go_wp2
          go_roundw
          case rel => exact ⟨k + 1, at5 (head ++ [(k : Int)]), by omega, by go_num, HO2, hA.out.1, hA.out.2.1, hA.out.2.2.2, TAIL.out _, hs2⟩
          case measure => simp [intOf]; omega
        · have HKY : Hid (k = y.toNat) := by show _ = _; omega
          by_cases htn : t ≤ n
          · have htl : t < (m.length : Int) - head.length := by have := HN1.out; omega
            have S := STEP.out wr u0 Q (-1) hg.out hne.out hs hb.out hQ.out _ ho.out
            have hcl := cell5 hb.out hf5
            have hfr := frozen5 hb.out head.length
            obtain ⟨g0, g1, g2, g3, g4⟩ := cells5' S.2.2.1
            have HS := Lib.hid S
            clear S
            go_wp2_with fail
            refine (ih (head ++ [(-1 : Int)]) a c lo hi B _ _ t u0 (ps ++ patK m head t k) (by simp) (by simp; have := HN.out; omega) (HM.out _ _ HS.out.2.1) hB (by have := HS.out.2.2.2; omega) HS.out.1 (by have := HK.out k; rw [List.length_append]; omega) (by omega) (by omega)).mono ?_
            rintro e w2 ⟨v2, rfl, ho2, hg2⟩
            have hA := Lib.hid (AFTER.out _ w2 u0 v2 _ HS.out.2.1 hne.out HS.out.2.2.2 HS.out.2.2.1 hg2)
            have HO := Lib.hid ho2
            clear ho2 hg2 g0 g1 g2 g3 g4 hcl hfr
            go_wp2
            go_ret
            refine ⟨v2, rfl, ?_, hA.out.1⟩
            rw [HP.out, ← List.append_assoc, ← HKY.out]
            exact HO.out
          · have htl : ¬ t < (m.length : Int) - head.length := by have := HN1.out; omega
            go_wp2
            go_ret
            refine ⟨u0, rfl, ?_, hg.out⟩
            have h1 : patS m (head ++ [-1]) t = [] := patS_out (by simp; omega) (.inr (by simp; omega))
            rw [HP.out, h1, List.append_nil, ← HKY.out]
            exact ho.out
    · obtain rfl : t = 0 := by omega
      have htl : (0 : Int) < (m.length : Int) - head.length := by have := HN1.out; omega
      have hP0 : patK m head 0 y.toNat = [] := by
        unfold patK
        rw [List.flatMap_eq_nil_iff]
        intro x _
        have hxl : (head ++ [(x : Int)]).length ≤ m.length := by simp; omega
        exact patS_out hxl (.inl (by omega))
      have HP0 := Lib.hid hP0
      clear hP0
      obtain ⟨wb, hwb⟩ : ∃ wb, w.alloc (.cells #[.int .i64 (at5 head 0), .int .i64 (at5 head 1), .int .i64 (at5 head 2), .int .i64 (at5 head 3), .int .i64 (at5 head 4)] 130) = wb := ⟨_, rfl⟩
      rw [hwb] at hGb hXb hsb hob
      have S := STEP.out wb v (at5 head) (-1) hGb hnb.out hsb hXb (fun _ _ => rfl) _ hob
      have hcl := cell5 hXb hf5
      have hfr := frozen5 hXb head.length
      obtain ⟨g0, g1, g2, g3, g4⟩ := cells5' S.2.2.1
      have HS := Lib.hid S
      have hne := hnb
      clear S hGb hXb hob
      go_enter Tryz.func97, Tryz.ntmps97
      go_wp2_with fail
      refine (ih (head ++ [(-1 : Int)]) a c lo hi B _ _ 0 v ps (by simp) (by simp; have := HN.out; omega) (HM.out _ _ HS.out.2.1) hB (by have := HS.out.2.2.2; omega) HS.out.1 (by omega) (by omega) (by omega)).mono ?_
      rintro e w2 ⟨v2, rfl, ho2, hg2⟩
      have hA := Lib.hid (AFTER.out _ w2 v v2 _ HS.out.2.1 hne.out HS.out.2.2.2 HS.out.2.2.1 hg2)
      have HO := Lib.hid ho2
      clear ho2 hg2 g0 g1 g2 g3 g4 hcl hfr
      go_wp2
      go_ret
      refine ⟨v2, rfl, ?_, hA.out.1⟩
      rw [HP.out, HP0.out, List.nil_append]
      exact HO.out

end Go.Proofs.YtpioldgpfpmjiaaGreatDoor
