/- Walks: slices.IndexFunc and slices.DeleteFunc over patterns. -/
import Derived.Test.YtpikecbmooendaaVe
import Derived.Test.YtpikecbmooendaaWu
namespace Go.Proofs.Ytpikecbmooendaa
open Go.RowKit

/-- the index of the first one, or -1 -/
def ixI (q : List Int → Bool) (ps : List (List Int)) : Int := if ps.findIdx q < ps.length then (ps.findIdx q : Int) else -1
theorem ix_yes {q : List Int → Bool} {ps : List (List Int)} {k : Nat} {l : List Int} (hx : ps[k]? = some l) (hq : q l = true) (hA : ∀ j, j < k → ∀ l, ps[j]? = some l → q l = false) : ixI q ps = k := by
  have hk := lt_of_at hx
  have h1 : ps.findIdx q = k := by
    rw [List.findIdx_eq hk]
    refine ⟨?_, fun j hj => ?_⟩
    · have : ps[k] = l := by rw [List.getElem?_eq_getElem hk] at hx; exact Option.some.inj hx
      rw [this]; exact hq
    · exact hA j hj _ (List.getElem?_eq_getElem (by omega))
  unfold ixI; rw [h1, if_pos hk]
theorem ix_no {q : List Int → Bool} {ps : List (List Int)} (hA : ∀ j, j < ps.length → ∀ l, ps[j]? = some l → q l = false) : ixI q ps = -1 ∧ ps.filter (fun l => !q l) = ps := by
  have h0 : ∀ x ∈ ps, q x = false := fun x hx => by
    obtain ⟨j, hj⟩ := List.getElem?_of_mem hx
    exact hA j (lt_of_at hj) x hj
  constructor
  · unfold ixI
    rw [List.findIdx_eq_length.2 h0, if_neg (Nat.lt_irrefl _)]
  · rw [List.filter_eq_self]; intro x hx; rw [h0 x hx]; rfl
theorem below_grown {w w' : World} (h : Below w.heap.size w w') (o : Option Nat) : w.grownBy w' o := ⟨h.os, h.tape, h.output, h.size, fun k hk _ => h.block k hk⟩
theorem grown_trans {a b c : World} {o : Option Nat} (h : a.grownBy b o) (k : b.grownBy c o) : a.grownBy c o :=
  ⟨k.os.trans h.os, k.tape.trans h.tape, k.output.trans h.output, Nat.le_trans h.size k.size, fun j hj hn => (k.block j (Nat.lt_of_lt_of_le hj h.size) hn).trans (h.block j hj hn)⟩
theorem take_set {α : Type} (cur : List α) (i : Nat) (l : α) (h : i < cur.length) : (cur.set i l).take (i + 1) = cur.take i ++ [l] := by
  rw [List.take_add_one, List.take_set_of_le (Nat.le_refl _), List.getElem?_set_self h]; rfl
theorem drop_set {α : Type} (cur : List α) (i j : Nat) (l : α) (h : i < j) : (cur.set i l).drop j = cur.drop j := List.drop_set_of_lt h
theorem drop_next {α : Type} {cur ps : List α} {j : Nat} (h : cur.drop j = ps.drop j) : cur.drop (j + 1) = ps.drop (j + 1) := by
  rw [← List.drop_drop, ← List.drop_drop, h]
theorem drop_at {α : Type} {cur ps : List α} {j : Nat} (h : cur.drop j = ps.drop j) : cur[j]? = ps[j]? := by
  have := congrArg (fun l => l[0]?) h
  simpa using this

set_option maxRecDepth 100000 in
set_option maxHeartbeats 2000000 in
theorem x_IndexIn {ps : List (List Int)} {v : Value} {B : Nat} {w : World} (rec : Value) (q : List Int → Bool) (ho : OwnP w B v ps) (hl : ps.length ≤ 1048576)
    (hcl : ∀ l ∈ ps, ∀ w', w.grownBy w' v.ownBlock → Calls Try.prog 174 #[rec, .agg #[.int .i64 (at5 l 0), .int .i64 (at5 l 1), .int .i64 (at5 l 2), .int .i64 (at5 l 3), .int .i64 (at5 l 4)]] w' (NewV w' (.bool (q l)))) :
    Calls Try.prog 171 #[v, .func (.func 174) #[rec] #[]] w (NewV w (.int .i64 (ixI q ps))) := by
  obtain ⟨a, c, rfl, hat⟩ := ho.at
  have HAT := Lib.hid hat
  have HCL := Lib.hid hcl
  obtain ⟨M, hM⟩ : ∃ M, ps.length = M := ⟨_, rfl⟩
  have HNN := Lib.hid hM
  have hMl : M ≤ 1048576 := by omega
  rw [hM]
  clear hat ho hM hl hcl
  go_enter Try.func171, Try.ntmps171
  go_wp2
  go_loopw [8] (fun i wr => ∃ k : Nat, k ≤ M ∧ i = .int .i64 k ∧ Below w.heap.size w wr ∧ Hid (∀ j, j < k → ∀ l, ps[j]? = some l → q l = false)) (fun i _ => M - (intOf i).toNat)
  case atStart => exact ⟨0, Nat.zero_le _, rfl, Below.refl _ _, fun j hj => by omega⟩
  case round =>
    obtain ⟨k, hk, rfl, hB3, hA⟩ := hrel
    have hz3 := hB3.size
    by_cases hlt : k < M
    · obtain ⟨l, hx⟩ := at_of_lt (show k < ps.length by have := HNN.out; omega)
      obtain ⟨g, hg1, hg2, hidx, hcs⟩ := HAT.out k l hx
      have HX := Lib.hid hx
      rw [HNN.out] at hidx
      have hc (j : Nat) (hj : j < 5) : wr.cell? ⟨g, k * 5 + j, none⟩ = some (.int .i64 (at5 l j)) := (hB3.cell (p := ⟨g, k * 5 + j, none⟩) hg2).trans (hcs j hj)
      have hc0 := hc 0 (by omega)
      have hc1 := hc 1 (by omega)
      have hc2 := hc 2 (by omega)
      have hc3' := hc 3 (by omega)
      have hc4 := hc 4 (by omega)
      simp only [Nat.add_zero] at hc0
      have hcall := Lib.hid (HCL.out l (List.mem_of_getElem? hx) wr (below_grown hB3 _))
      clear hc hcs hx
      cases hm : q l
      · have HM := Lib.hid hm; clear hm
        have HA : Hid (∀ j, j < k + 1 → ∀ l, ps[j]? = some l → q l = false) := fun j hj l' hl' => by
          by_cases e : j = k
          · subst e; have := HX.out.symm.trans hl'; cases this; exact HM.out
          · exact hA.out j (by omega) l' hl'
        go_wp2_with fail
        refine hcall.out.mono ?_
        rintro e w2 ⟨rfl, hb2⟩
        rw [HM.out]
        have hB5 : Below w.heap.size w w2 := hB3.trans (hb2.mono (by omega))
        clear hc0 hc1 hc2 hc3' hc4 hb2 hB3
        go_wp2
        go_roundw
        case rel => exact ⟨k + 1, by omega, by go_num, hB5, HA⟩
        case measure => simp [intOf]; omega
      · have HM := Lib.hid hm; clear hm
        have HI : Hid (ixI q ps = k) := ix_yes HX.out HM.out hA.out
        go_wp2_with fail
        refine hcall.out.mono ?_
        rintro e w2 ⟨rfl, hb2⟩
        rw [HM.out]
        have hB5 : Below w.heap.size w w2 := hB3.trans (hb2.mono (by omega))
        go_wp2
        go_ret
        exact ⟨by rw [HI.out]; rfl, hB5⟩
    · have HI := ix_no (q := q) (ps := ps) fun j hj => hA.out j (by have := HNN.out; omega)
      have HI := Lib.hid HI.1
      go_wp2
      go_ret
      exact ⟨by rw [HI.out]; rfl, hB3⟩

set_option maxRecDepth 100000 in
set_option maxHeartbeats 4000000 in
theorem x_DelIn {ps : List (List Int)} {v : Value} {B : Nat} {w : World} (rec : Value) (q : List Int → Bool) (ho : OwnP w B v ps) (hl : ps.length ≤ 1048576)
    (hcl : ∀ l ∈ ps, ∀ w', w.grownBy w' v.ownBlock → Calls Try.prog 174 #[rec, .agg #[.int .i64 (at5 l 0), .int .i64 (at5 l 1), .int .i64 (at5 l 2), .int .i64 (at5 l 3), .int .i64 (at5 l 4)]] w' (NewV w' (.bool (q l)))) :
    Calls Try.prog 105 #[v, .func (.func 174) #[rec] #[]] w (fun e w' => ∃ v', e = .returned v' ∧ OwnP w' B v' (ps.filter fun l => !q l) ∧ GrP w w' v v') := by
  by_cases hall : ∀ j, j < ps.length → ∀ l, ps[j]? = some l → q l = false
  · have HN := Lib.hid (ix_no hall)
    have hix := x_IndexIn rec q ho hl hcl
    obtain ⟨a, c, rfl, _⟩ := ho.at
    have hlto := ho.lt
    have HIX := Lib.hid hix
    clear hix hcl hall
    go_enter Try.func105, Try.ntmps105
    go_wp2_with fail
    refine HIX.out.mono ?_
    rintro e w1 ⟨rfl, hb1⟩
    rw [HN.out.1]
    go_wp2
    go_ret
    refine ⟨_, rfl, ?_, below_grown hb1 _, .inl rfl⟩
    rw [HN.out.2]
    exact ho.kept fun k hk _ => hb1.block k hk
  have hall2 : ∃ (k : Nat) (l : List Int), ps[k]? = some l ∧ q l = true ∧ ∀ j, j < k → ∀ l, ps[j]? = some l → q l = false := by
    have hex : ∃ (k : Nat), ∃ (l : List Int), ps[k]? = some l ∧ q l = true := by
      refine Classical.byContradiction fun hn => hall fun j _ l hl => ?_
      cases h : q l
      · rfl
      · exact absurd ⟨j, l, hl, h⟩ hn
    obtain ⟨k, hk⟩ := hex
    obtain ⟨k0, ⟨l0, h1, h2⟩, h3⟩ := leastN (P := fun k => ∃ l, ps[k]? = some l ∧ q l = true) hk
    exact ⟨k0, l0, h1, h2, fun j hj l hl => by
      cases h : q l
      · rfl
      · exact absurd ⟨l, hl, h⟩ (h3 j hj)⟩
  obtain ⟨k0, l0, hx0, hq0, hA0⟩ := hall2
  have hne : ps ≠ [] := by intro e; rw [e] at hx0; simp at hx0
  have hix := x_IndexIn rec q ho hl hcl
  rw [ix_yes hx0 hq0 hA0] at hix
  obtain ⟨g, cap, rfl, hBg, hrow⟩ := ho.row hne
  have hflt : (ps.take (k0 + 1)).filter (fun l => !q l) = ps.take k0 := by
    rw [take_snoc hx0, List.filter_append, List.filter_eq_self.2 (fun x hx => ?_)]
    · simp [hq0]
    · obtain ⟨j, hj⟩ := List.getElem?_of_mem hx
      have hj2 := lt_of_at hj
      simp at hj2
      rw [List.getElem?_take, if_pos (by omega)] at hj
      rw [hA0 j (by omega) x hj]; rfl
  have hk0 := lt_of_at hx0
  have HIX := Lib.hid hix
  have HFL := Lib.hid hflt
  have HCL := Lib.hid hcl
  have HX0 := Lib.hid hx0
  have hg0 := hrow.lt
  have hcap := hrow
  obtain ⟨_, _, hcap1, hcap2, _⟩ := hcap
  obtain ⟨M, hM⟩ : ∃ M, ps.length = M := ⟨_, rfl⟩
  have HNN := Lib.hid hM
  rw [hM] at hcap1
  have hmx : cap ≤ 9223372036854775807 := by unfold maxLen at hcap2; omega
  have hMl : M ≤ 1048576 := by omega
  rw [hM] at hk0 HIX ⊢
  clear hix hcl hflt hall hne ho hx0 hq0 hA0 hM hl
  go_enter Try.func105, Try.ntmps105
  go_wp2_with fail
  refine HIX.out.mono ?_
  rintro e w1 ⟨rfl, hb1⟩
  have hrow1 := hrow.same (hb1.block g hg0)
  have hgr1 := below_grown hb1 (some g)
  have hneg : ((k0 : Int) == -1) = false := by rw [beq_eq_false_iff_ne]; omega
  have hneg2 : decide ((k0 : Int) = -1) = false := decide_eq_false (by omega)
  clear hrow hb1
  go_wp2
  go_loopw [5, 6] (fun vi vj wr => ∃ (i j : Nat) (cur : List (List Int)), i < j ∧ j ≤ M ∧ vi = .int .i64 i ∧ vj = .int .i64 j ∧ RowP wr g cap cur ∧ cur.length = M ∧ w.grownBy wr (some g) ∧ Hid (cur.take i = (ps.take j).filter (fun l => !q l) ∧ cur.drop j = ps.drop j ∧ i < M)) (fun _ vj _ => M - (intOf vj).toNat)
  case atStart => exact ⟨k0, k0 + 1, ps, by omega, by omega, rfl, by go_num, hrow1, HNN.out, hgr1, HFL.out.symm, rfl, hk0⟩
  case round =>
    clear hrow1 hgr1
    obtain ⟨i, j, cur, hij, hj, rfl, rfl, hrow, hcl, hgr, hI⟩ := hrel
    have hzr := hgr.size
    have hiM := hI.out.2.2
    by_cases hlt : j < M
    · obtain ⟨l, hx⟩ := at_of_lt (show j < ps.length by have := HNN.out; omega)
      have hxc := (drop_at hI.out.2.1).trans hx
      have hidx := RowP.idx (g := g) (cap := cap) hlt
      have hidi := RowP.idx (g := g) (cap := cap) hiM
      have hc := hrow.cell hxc
      have hc0 := hc 0 (by omega)
      have hc1 := hc 1 (by omega)
      have hc2 := hc 2 (by omega)
      have hc3' := hc 3 (by omega)
      have hc4 := hc 4 (by omega)
      simp only [Nat.add_zero] at hc0
      have hbA := (Below.refl wr.heap.size wr).alloc (Nat.le_refl _) (.cells #[.int .i64 (at5 l 0), .int .i64 (at5 l 1), .int .i64 (at5 l 2), .int .i64 (at5 l 3), .int .i64 (at5 l 4)] 62)
      have hbox := heap_alloc_new wr (.cells #[.int .i64 (at5 l 0), .int .i64 (at5 l 1), .int .i64 (at5 l 2), .int .i64 (at5 l 3), .int .i64 (at5 l 4)] 62)
      obtain ⟨t0, t1, t2, t3, t4⟩ := cells5' hbox
      have hcall := Lib.hid (HCL.out l (List.mem_of_getElem? hx) (wr.alloc (.cells #[.int .i64 (at5 l 0), .int .i64 (at5 l 1), .int .i64 (at5 l 2), .int .i64 (at5 l 3), .int .i64 (at5 l 4)] 62)) (grown_trans hgr (below_grown hbA _)))
      have HX := Lib.hid hx
      have hcurl : cur.length = M := hcl
      clear hc hx hxc
      cases hm : q l
      · have HM := Lib.hid hm; clear hm
        go_wp2_with fail
        refine hcall.out.mono ?_
        rintro e w2 ⟨rfl, hb2⟩
        rw [HM.out]
        have hb02 := hbA.trans (hb2.mono (by simp))
        have hrow2 := hrow.same (hb02.block g hrow.lt)
        obtain ⟨e0, e1, e2, e3, e4⟩ := cells5' ((hb2.block wr.heap.size (by simp)).trans hbox)
        obtain ⟨cu, hcu⟩ := at_of_lt (show i < cur.length by omega)
        have hd := hrow2.cell hcu
        have d0 := hd 0 (by omega)
        have d1 := hd 1 (by omega)
        have d2 := hd 2 (by omega)
        have d3 := hd 3 (by omega)
        have d4 := hd 4 (by omega)
        simp only [Nat.add_zero] at d0
        have hfz := hrow2.frozen
        have f0 := hfz (i * 5)
        have f1 := hfz (i * 5 + 1)
        have f2 := hfz (i * 5 + 2)
        have f3 := hfz (i * 5 + 3)
        have f4 := hfz (i * 5 + 4)
        clear hc0 hc1 hc2 hc3' hc4 t0 t1 t2 t3 t4 hd hfz hcu
        go_wp2
        obtain ⟨W, hW, hrowW, hgW⟩ := hrow2.set (i := i) (by omega) l
        rw [← hW]
        have HN : Hid ((cur.set i l).take (i + 1) = (ps.take (j + 1)).filter (fun l => !q l) ∧ (cur.set i l).drop (j + 1) = ps.drop (j + 1)) := by
          constructor
          · rw [take_set _ _ _ (by omega), hI.out.1, take_snoc HX.out, List.filter_append]; simp [HM.out]
          · rw [drop_set _ _ _ _ (by omega)]; exact drop_next hI.out.2.1
        have hgW' := grown_trans hgr (grown_trans (below_grown hb02 _) hgW)
        clear hW
        go_roundw
        case rel => exact ⟨i + 1, j + 1, cur.set i l, by omega, by omega, by go_num, by go_num, hrowW, by rw [List.length_set]; exact hcurl, hgW', HN.out.1, HN.out.2, by omega⟩
        case measure => simp [intOf]; omega
      · have HM := Lib.hid hm; clear hm
        go_wp2_with fail
        refine hcall.out.mono ?_
        rintro e w2 ⟨rfl, hb2⟩
        rw [HM.out]
        have hb02 := hbA.trans (hb2.mono (by simp))
        have hrow2 := hrow.same (hb02.block g hrow.lt)
        have hgr2 := grown_trans hgr (below_grown hb02 _)
        have HN : Hid (cur.take i = (ps.take (j + 1)).filter (fun l => !q l) ∧ cur.drop (j + 1) = ps.drop (j + 1)) := by
          constructor
          · rw [hI.out.1, take_snoc HX.out, List.filter_append]; simp [HM.out]
          · exact drop_next hI.out.2.1
        clear hc0 hc1 hc2 hc3' hc4 t0 t1 t2 t3 t4 hbox hrow hgr
        go_wp2
        go_roundw
        case rel => exact ⟨i, j + 1, cur, by omega, by omega, rfl, by go_num, hrow2, hcurl, hgr2, HN.out.1, HN.out.2, by omega⟩
        case measure => simp [intOf]; omega
    · obtain rfl : j = M := by omega
      have hfin : Hid (cur.take i = ps.filter (fun l => !q l)) := by
        show _ = _; rw [hI.out.1, List.take_of_length_le (by have := HNN.out; omega)]
      obtain ⟨W, hclr, hrowW, hgW⟩ := run_clearP hrow (i := i) (n := j - i) (c := cap - i) (by omega) (by omega) 0
      go_wp2
      go_ret
      have hown := hrowW.own hBg
      have hli : (cur.take i).length = i := by rw [List.length_take]; omega
      rw [hli] at hown
      refine ⟨_, rfl, ?_, grown_trans hgr hgW, .inl rfl⟩
      rw [← hfin.out]; exact hown

set_option maxRecDepth 100000 in
set_option maxHeartbeats 2000000 in
theorem x_IndexPos {ps : List (List Int)} {v : Value} {B : Nat} {w : World} (rec : Value) (q : List Int → Bool) (ho : OwnP w B v ps) (hl : ps.length ≤ 1048576)
    (hcl : ∀ l ∈ ps, ∀ w', w.grownBy w' v.ownBlock → Calls Try.prog 119 #[rec, .agg #[.int .i64 (at5 l 0), .int .i64 (at5 l 1), .int .i64 (at5 l 2), .int .i64 (at5 l 3), .int .i64 (at5 l 4)]] w' (NewV w' (.bool (q l)))) :
    Calls Try.prog 171 #[v, .func (.func 119) #[rec] #[]] w (NewV w (.int .i64 (ixI q ps))) := by
  obtain ⟨a, c, rfl, hat⟩ := ho.at
  have HAT := Lib.hid hat
  have HCL := Lib.hid hcl
  obtain ⟨M, hM⟩ : ∃ M, ps.length = M := ⟨_, rfl⟩
  have HNN := Lib.hid hM
  have hMl : M ≤ 1048576 := by omega
  rw [hM]
  clear hat ho hM hl hcl
  go_enter Try.func171, Try.ntmps171
  go_wp2
  go_loopw [8] (fun i wr => ∃ k : Nat, k ≤ M ∧ i = .int .i64 k ∧ Below w.heap.size w wr ∧ Hid (∀ j, j < k → ∀ l, ps[j]? = some l → q l = false)) (fun i _ => M - (intOf i).toNat)
  case atStart => exact ⟨0, Nat.zero_le _, rfl, Below.refl _ _, fun j hj => by omega⟩
  case round =>
    obtain ⟨k, hk, rfl, hB3, hA⟩ := hrel
    have hz3 := hB3.size
    by_cases hlt : k < M
    · obtain ⟨l, hx⟩ := at_of_lt (show k < ps.length by have := HNN.out; omega)
      obtain ⟨g, hg1, hg2, hidx, hcs⟩ := HAT.out k l hx
      have HX := Lib.hid hx
      rw [HNN.out] at hidx
      have hc (j : Nat) (hj : j < 5) : wr.cell? ⟨g, k * 5 + j, none⟩ = some (.int .i64 (at5 l j)) := (hB3.cell (p := ⟨g, k * 5 + j, none⟩) hg2).trans (hcs j hj)
      have hc0 := hc 0 (by omega)
      have hc1 := hc 1 (by omega)
      have hc2 := hc 2 (by omega)
      have hc3' := hc 3 (by omega)
      have hc4 := hc 4 (by omega)
      simp only [Nat.add_zero] at hc0
      have hcall := Lib.hid (HCL.out l (List.mem_of_getElem? hx) wr (below_grown hB3 _))
      clear hc hcs hx
      cases hm : q l
      · have HM := Lib.hid hm; clear hm
        have HA : Hid (∀ j, j < k + 1 → ∀ l, ps[j]? = some l → q l = false) := fun j hj l' hl' => by
          by_cases e : j = k
          · subst e; have := HX.out.symm.trans hl'; cases this; exact HM.out
          · exact hA.out j (by omega) l' hl'
        go_wp2_with fail
        refine hcall.out.mono ?_
        rintro e w2 ⟨rfl, hb2⟩
        rw [HM.out]
        have hB5 : Below w.heap.size w w2 := hB3.trans (hb2.mono (by omega))
        clear hc0 hc1 hc2 hc3' hc4 hb2 hB3
        go_wp2
        go_roundw
        case rel => exact ⟨k + 1, by omega, by go_num, hB5, HA⟩
        case measure => simp [intOf]; omega
      · have HM := Lib.hid hm; clear hm
        have HI : Hid (ixI q ps = k) := ix_yes HX.out HM.out hA.out
        go_wp2_with fail
        refine hcall.out.mono ?_
        rintro e w2 ⟨rfl, hb2⟩
        rw [HM.out]
        have hB5 : Below w.heap.size w w2 := hB3.trans (hb2.mono (by omega))
        go_wp2
        go_ret
        exact ⟨by rw [HI.out]; rfl, hB5⟩
    · have HI := ix_no (q := q) (ps := ps) fun j hj => hA.out j (by have := HNN.out; omega)
      have HI := Lib.hid HI.1
      go_wp2
      go_ret
      exact ⟨by rw [HI.out]; rfl, hB3⟩

set_option maxRecDepth 100000 in
set_option maxHeartbeats 4000000 in
theorem x_DelPos {ps : List (List Int)} {v : Value} {B : Nat} {w : World} (rec : Value) (q : List Int → Bool) (ho : OwnP w B v ps) (hl : ps.length ≤ 1048576)
    (hcl : ∀ l ∈ ps, ∀ w', w.grownBy w' v.ownBlock → Calls Try.prog 119 #[rec, .agg #[.int .i64 (at5 l 0), .int .i64 (at5 l 1), .int .i64 (at5 l 2), .int .i64 (at5 l 3), .int .i64 (at5 l 4)]] w' (NewV w' (.bool (q l)))) :
    Calls Try.prog 105 #[v, .func (.func 119) #[rec] #[]] w (fun e w' => ∃ v', e = .returned v' ∧ OwnP w' B v' (ps.filter fun l => !q l) ∧ GrP w w' v v') := by
  by_cases hall : ∀ j, j < ps.length → ∀ l, ps[j]? = some l → q l = false
  · have HN := Lib.hid (ix_no hall)
    have hix := x_IndexPos rec q ho hl hcl
    obtain ⟨a, c, rfl, _⟩ := ho.at
    have hlto := ho.lt
    have HIX := Lib.hid hix
    clear hix hcl hall
    go_enter Try.func105, Try.ntmps105
    go_wp2_with fail
    refine HIX.out.mono ?_
    rintro e w1 ⟨rfl, hb1⟩
    rw [HN.out.1]
    go_wp2
    go_ret
    refine ⟨_, rfl, ?_, below_grown hb1 _, .inl rfl⟩
    rw [HN.out.2]
    exact ho.kept fun k hk _ => hb1.block k hk
  have hall2 : ∃ (k : Nat) (l : List Int), ps[k]? = some l ∧ q l = true ∧ ∀ j, j < k → ∀ l, ps[j]? = some l → q l = false := by
    have hex : ∃ (k : Nat), ∃ (l : List Int), ps[k]? = some l ∧ q l = true := by
      refine Classical.byContradiction fun hn => hall fun j _ l hl => ?_
      cases h : q l
      · rfl
      · exact absurd ⟨j, l, hl, h⟩ hn
    obtain ⟨k, hk⟩ := hex
    obtain ⟨k0, ⟨l0, h1, h2⟩, h3⟩ := leastN (P := fun k => ∃ l, ps[k]? = some l ∧ q l = true) hk
    exact ⟨k0, l0, h1, h2, fun j hj l hl => by
      cases h : q l
      · rfl
      · exact absurd ⟨l, hl, h⟩ (h3 j hj)⟩
  obtain ⟨k0, l0, hx0, hq0, hA0⟩ := hall2
  have hne : ps ≠ [] := by intro e; rw [e] at hx0; simp at hx0
  have hix := x_IndexPos rec q ho hl hcl
  rw [ix_yes hx0 hq0 hA0] at hix
  obtain ⟨g, cap, rfl, hBg, hrow⟩ := ho.row hne
  have hflt : (ps.take (k0 + 1)).filter (fun l => !q l) = ps.take k0 := by
    rw [take_snoc hx0, List.filter_append, List.filter_eq_self.2 (fun x hx => ?_)]
    · simp [hq0]
    · obtain ⟨j, hj⟩ := List.getElem?_of_mem hx
      have hj2 := lt_of_at hj
      simp at hj2
      rw [List.getElem?_take, if_pos (by omega)] at hj
      rw [hA0 j (by omega) x hj]; rfl
  have hk0 := lt_of_at hx0
  have HIX := Lib.hid hix
  have HFL := Lib.hid hflt
  have HCL := Lib.hid hcl
  have HX0 := Lib.hid hx0
  have hg0 := hrow.lt
  have hcap := hrow
  obtain ⟨_, _, hcap1, hcap2, _⟩ := hcap
  obtain ⟨M, hM⟩ : ∃ M, ps.length = M := ⟨_, rfl⟩
  have HNN := Lib.hid hM
  rw [hM] at hcap1
  have hmx : cap ≤ 9223372036854775807 := by unfold maxLen at hcap2; omega
  have hMl : M ≤ 1048576 := by omega
  rw [hM] at hk0 HIX ⊢
  clear hix hcl hflt hall hne ho hx0 hq0 hA0 hM hl
  go_enter Try.func105, Try.ntmps105
  go_wp2_with fail
  refine HIX.out.mono ?_
  rintro e w1 ⟨rfl, hb1⟩
  have hrow1 := hrow.same (hb1.block g hg0)
  have hgr1 := below_grown hb1 (some g)
  have hneg : ((k0 : Int) == -1) = false := by rw [beq_eq_false_iff_ne]; omega
  have hneg2 : decide ((k0 : Int) = -1) = false := decide_eq_false (by omega)
  clear hrow hb1
  go_wp2
  go_loopw [5, 6] (fun vi vj wr => ∃ (i j : Nat) (cur : List (List Int)), i < j ∧ j ≤ M ∧ vi = .int .i64 i ∧ vj = .int .i64 j ∧ RowP wr g cap cur ∧ cur.length = M ∧ w.grownBy wr (some g) ∧ Hid (cur.take i = (ps.take j).filter (fun l => !q l) ∧ cur.drop j = ps.drop j ∧ i < M)) (fun _ vj _ => M - (intOf vj).toNat)
  case atStart => exact ⟨k0, k0 + 1, ps, by omega, by omega, rfl, by go_num, hrow1, HNN.out, hgr1, HFL.out.symm, rfl, hk0⟩
  case round =>
    clear hrow1 hgr1
    obtain ⟨i, j, cur, hij, hj, rfl, rfl, hrow, hcl, hgr, hI⟩ := hrel
    have hzr := hgr.size
    have hiM := hI.out.2.2
    by_cases hlt : j < M
    · obtain ⟨l, hx⟩ := at_of_lt (show j < ps.length by have := HNN.out; omega)
      have hxc := (drop_at hI.out.2.1).trans hx
      have hidx := RowP.idx (g := g) (cap := cap) hlt
      have hidi := RowP.idx (g := g) (cap := cap) hiM
      have hc := hrow.cell hxc
      have hc0 := hc 0 (by omega)
      have hc1 := hc 1 (by omega)
      have hc2 := hc 2 (by omega)
      have hc3' := hc 3 (by omega)
      have hc4 := hc 4 (by omega)
      simp only [Nat.add_zero] at hc0
      have hbA := (Below.refl wr.heap.size wr).alloc (Nat.le_refl _) (.cells #[.int .i64 (at5 l 0), .int .i64 (at5 l 1), .int .i64 (at5 l 2), .int .i64 (at5 l 3), .int .i64 (at5 l 4)] 62)
      have hbox := heap_alloc_new wr (.cells #[.int .i64 (at5 l 0), .int .i64 (at5 l 1), .int .i64 (at5 l 2), .int .i64 (at5 l 3), .int .i64 (at5 l 4)] 62)
      obtain ⟨t0, t1, t2, t3, t4⟩ := cells5' hbox
      have hcall := Lib.hid (HCL.out l (List.mem_of_getElem? hx) (wr.alloc (.cells #[.int .i64 (at5 l 0), .int .i64 (at5 l 1), .int .i64 (at5 l 2), .int .i64 (at5 l 3), .int .i64 (at5 l 4)] 62)) (grown_trans hgr (below_grown hbA _)))
      have HX := Lib.hid hx
      have hcurl : cur.length = M := hcl
      clear hc hx hxc
      cases hm : q l
      · have HM := Lib.hid hm; clear hm
        go_wp2_with fail
        refine hcall.out.mono ?_
        rintro e w2 ⟨rfl, hb2⟩
        rw [HM.out]
        have hb02 := hbA.trans (hb2.mono (by simp))
        have hrow2 := hrow.same (hb02.block g hrow.lt)
        obtain ⟨e0, e1, e2, e3, e4⟩ := cells5' ((hb2.block wr.heap.size (by simp)).trans hbox)
        obtain ⟨cu, hcu⟩ := at_of_lt (show i < cur.length by omega)
        have hd := hrow2.cell hcu
        have d0 := hd 0 (by omega)
        have d1 := hd 1 (by omega)
        have d2 := hd 2 (by omega)
        have d3 := hd 3 (by omega)
        have d4 := hd 4 (by omega)
        simp only [Nat.add_zero] at d0
        have hfz := hrow2.frozen
        have f0 := hfz (i * 5)
        have f1 := hfz (i * 5 + 1)
        have f2 := hfz (i * 5 + 2)
        have f3 := hfz (i * 5 + 3)
        have f4 := hfz (i * 5 + 4)
        clear hc0 hc1 hc2 hc3' hc4 t0 t1 t2 t3 t4 hd hfz hcu
        go_wp2
        obtain ⟨W, hW, hrowW, hgW⟩ := hrow2.set (i := i) (by omega) l
        rw [← hW]
        have HN : Hid ((cur.set i l).take (i + 1) = (ps.take (j + 1)).filter (fun l => !q l) ∧ (cur.set i l).drop (j + 1) = ps.drop (j + 1)) := by
          constructor
          · rw [take_set _ _ _ (by omega), hI.out.1, take_snoc HX.out, List.filter_append]; simp [HM.out]
          · rw [drop_set _ _ _ _ (by omega)]; exact drop_next hI.out.2.1
        have hgW' := grown_trans hgr (grown_trans (below_grown hb02 _) hgW)
        clear hW
        go_roundw
        case rel => exact ⟨i + 1, j + 1, cur.set i l, by omega, by omega, by go_num, by go_num, hrowW, by rw [List.length_set]; exact hcurl, hgW', HN.out.1, HN.out.2, by omega⟩
        case measure => simp [intOf]; omega
      · have HM := Lib.hid hm; clear hm
        go_wp2_with fail
        refine hcall.out.mono ?_
        rintro e w2 ⟨rfl, hb2⟩
        rw [HM.out]
        have hb02 := hbA.trans (hb2.mono (by simp))
        have hrow2 := hrow.same (hb02.block g hrow.lt)
        have hgr2 := grown_trans hgr (below_grown hb02 _)
        have HN : Hid (cur.take i = (ps.take (j + 1)).filter (fun l => !q l) ∧ cur.drop (j + 1) = ps.drop (j + 1)) := by
          constructor
          · rw [hI.out.1, take_snoc HX.out, List.filter_append]; simp [HM.out]
          · exact drop_next hI.out.2.1
        clear hc0 hc1 hc2 hc3' hc4 t0 t1 t2 t3 t4 hbox hrow hgr
        go_wp2
        go_roundw
        case rel => exact ⟨i, j + 1, cur, by omega, by omega, rfl, by go_num, hrow2, hcurl, hgr2, HN.out.1, HN.out.2, by omega⟩
        case measure => simp [intOf]; omega
    · obtain rfl : j = M := by omega
      have hfin : Hid (cur.take i = ps.filter (fun l => !q l)) := by
        show _ = _; rw [hI.out.1, List.take_of_length_le (by have := HNN.out; omega)]
      obtain ⟨W, hclr, hrowW, hgW⟩ := run_clearP hrow (i := i) (n := j - i) (c := cap - i) (by omega) (by omega) 0
      go_wp2
      go_ret
      have hown := hrowW.own hBg
      have hli : (cur.take i).length = i := by rw [List.length_take]; omega
      rw [hli] at hown
      refine ⟨_, rfl, ?_, grown_trans hgr hgW, .inl rfl⟩
      rw [← hfin.out]; exact hown

set_option maxRecDepth 100000 in
set_option maxHeartbeats 2000000 in
theorem x_IndexAdd {ps : List (List Int)} {v : Value} {B : Nat} {w : World} (rec : Value) (q : List Int → Bool) (ho : OwnP w B v ps) (hl : ps.length ≤ 1048576)
    (hcl : ∀ l ∈ ps, ∀ w', w.grownBy w' v.ownBlock → Calls Try.prog 106 #[.agg #[.int .i64 (at5 l 0), .int .i64 (at5 l 1), .int .i64 (at5 l 2), .int .i64 (at5 l 3), .int .i64 (at5 l 4)], rec] w' (NewV w' (.bool (q l)))) :
    Calls Try.prog 171 #[v, .func (.func 106) #[] #[rec]] w (NewV w (.int .i64 (ixI q ps))) := by
  obtain ⟨a, c, rfl, hat⟩ := ho.at
  have HAT := Lib.hid hat
  have HCL := Lib.hid hcl
  obtain ⟨M, hM⟩ : ∃ M, ps.length = M := ⟨_, rfl⟩
  have HNN := Lib.hid hM
  have hMl : M ≤ 1048576 := by omega
  rw [hM]
  clear hat ho hM hl hcl
  go_enter Try.func171, Try.ntmps171
  go_wp2
  go_loopw [8] (fun i wr => ∃ k : Nat, k ≤ M ∧ i = .int .i64 k ∧ Below w.heap.size w wr ∧ Hid (∀ j, j < k → ∀ l, ps[j]? = some l → q l = false)) (fun i _ => M - (intOf i).toNat)
  case atStart => exact ⟨0, Nat.zero_le _, rfl, Below.refl _ _, fun j hj => by omega⟩
  case round =>
    obtain ⟨k, hk, rfl, hB3, hA⟩ := hrel
    have hz3 := hB3.size
    by_cases hlt : k < M
    · obtain ⟨l, hx⟩ := at_of_lt (show k < ps.length by have := HNN.out; omega)
      obtain ⟨g, hg1, hg2, hidx, hcs⟩ := HAT.out k l hx
      have HX := Lib.hid hx
      rw [HNN.out] at hidx
      have hc (j : Nat) (hj : j < 5) : wr.cell? ⟨g, k * 5 + j, none⟩ = some (.int .i64 (at5 l j)) := (hB3.cell (p := ⟨g, k * 5 + j, none⟩) hg2).trans (hcs j hj)
      have hc0 := hc 0 (by omega)
      have hc1 := hc 1 (by omega)
      have hc2 := hc 2 (by omega)
      have hc3' := hc 3 (by omega)
      have hc4 := hc 4 (by omega)
      simp only [Nat.add_zero] at hc0
      have hcall := Lib.hid (HCL.out l (List.mem_of_getElem? hx) wr (below_grown hB3 _))
      clear hc hcs hx
      cases hm : q l
      · have HM := Lib.hid hm; clear hm
        have HA : Hid (∀ j, j < k + 1 → ∀ l, ps[j]? = some l → q l = false) := fun j hj l' hl' => by
          by_cases e : j = k
          · subst e; have := HX.out.symm.trans hl'; cases this; exact HM.out
          · exact hA.out j (by omega) l' hl'
        go_wp2_with fail
        refine hcall.out.mono ?_
        rintro e w2 ⟨rfl, hb2⟩
        rw [HM.out]
        have hB5 : Below w.heap.size w w2 := hB3.trans (hb2.mono (by omega))
        clear hc0 hc1 hc2 hc3' hc4 hb2 hB3
        go_wp2
        go_roundw
        case rel => exact ⟨k + 1, by omega, by go_num, hB5, HA⟩
        case measure => simp [intOf]; omega
      · have HM := Lib.hid hm; clear hm
        have HI : Hid (ixI q ps = k) := ix_yes HX.out HM.out hA.out
        go_wp2_with fail
        refine hcall.out.mono ?_
        rintro e w2 ⟨rfl, hb2⟩
        rw [HM.out]
        have hB5 : Below w.heap.size w w2 := hB3.trans (hb2.mono (by omega))
        go_wp2
        go_ret
        exact ⟨by rw [HI.out]; rfl, hB5⟩
    · have HI := ix_no (q := q) (ps := ps) fun j hj => hA.out j (by have := HNN.out; omega)
      have HI := Lib.hid HI.1
      go_wp2
      go_ret
      exact ⟨by rw [HI.out]; rfl, hB3⟩

set_option maxRecDepth 100000 in
set_option maxHeartbeats 4000000 in
theorem x_DelAdd {ps : List (List Int)} {v : Value} {B : Nat} {w : World} (rec : Value) (q : List Int → Bool) (ho : OwnP w B v ps) (hl : ps.length ≤ 1048576)
    (hcl : ∀ l ∈ ps, ∀ w', w.grownBy w' v.ownBlock → Calls Try.prog 106 #[.agg #[.int .i64 (at5 l 0), .int .i64 (at5 l 1), .int .i64 (at5 l 2), .int .i64 (at5 l 3), .int .i64 (at5 l 4)], rec] w' (NewV w' (.bool (q l)))) :
    Calls Try.prog 105 #[v, .func (.func 106) #[] #[rec]] w (fun e w' => ∃ v', e = .returned v' ∧ OwnP w' B v' (ps.filter fun l => !q l) ∧ GrP w w' v v') := by
  by_cases hall : ∀ j, j < ps.length → ∀ l, ps[j]? = some l → q l = false
  · have HN := Lib.hid (ix_no hall)
    have hix := x_IndexAdd rec q ho hl hcl
    obtain ⟨a, c, rfl, _⟩ := ho.at
    have hlto := ho.lt
    have HIX := Lib.hid hix
    clear hix hcl hall
    go_enter Try.func105, Try.ntmps105
    go_wp2_with fail
    refine HIX.out.mono ?_
    rintro e w1 ⟨rfl, hb1⟩
    rw [HN.out.1]
    go_wp2
    go_ret
    refine ⟨_, rfl, ?_, below_grown hb1 _, .inl rfl⟩
    rw [HN.out.2]
    exact ho.kept fun k hk _ => hb1.block k hk
  have hall2 : ∃ (k : Nat) (l : List Int), ps[k]? = some l ∧ q l = true ∧ ∀ j, j < k → ∀ l, ps[j]? = some l → q l = false := by
    have hex : ∃ (k : Nat), ∃ (l : List Int), ps[k]? = some l ∧ q l = true := by
      refine Classical.byContradiction fun hn => hall fun j _ l hl => ?_
      cases h : q l
      · rfl
      · exact absurd ⟨j, l, hl, h⟩ hn
    obtain ⟨k, hk⟩ := hex
    obtain ⟨k0, ⟨l0, h1, h2⟩, h3⟩ := leastN (P := fun k => ∃ l, ps[k]? = some l ∧ q l = true) hk
    exact ⟨k0, l0, h1, h2, fun j hj l hl => by
      cases h : q l
      · rfl
      · exact absurd ⟨l, hl, h⟩ (h3 j hj)⟩
  obtain ⟨k0, l0, hx0, hq0, hA0⟩ := hall2
  have hne : ps ≠ [] := by intro e; rw [e] at hx0; simp at hx0
  have hix := x_IndexAdd rec q ho hl hcl
  rw [ix_yes hx0 hq0 hA0] at hix
  obtain ⟨g, cap, rfl, hBg, hrow⟩ := ho.row hne
  have hflt : (ps.take (k0 + 1)).filter (fun l => !q l) = ps.take k0 := by
    rw [take_snoc hx0, List.filter_append, List.filter_eq_self.2 (fun x hx => ?_)]
    · simp [hq0]
    · obtain ⟨j, hj⟩ := List.getElem?_of_mem hx
      have hj2 := lt_of_at hj
      simp at hj2
      rw [List.getElem?_take, if_pos (by omega)] at hj
      rw [hA0 j (by omega) x hj]; rfl
  have hk0 := lt_of_at hx0
  have HIX := Lib.hid hix
  have HFL := Lib.hid hflt
  have HCL := Lib.hid hcl
  have HX0 := Lib.hid hx0
  have hg0 := hrow.lt
  have hcap := hrow
  obtain ⟨_, _, hcap1, hcap2, _⟩ := hcap
  obtain ⟨M, hM⟩ : ∃ M, ps.length = M := ⟨_, rfl⟩
  have HNN := Lib.hid hM
  rw [hM] at hcap1
  have hmx : cap ≤ 9223372036854775807 := by unfold maxLen at hcap2; omega
  have hMl : M ≤ 1048576 := by omega
  rw [hM] at hk0 HIX ⊢
  clear hix hcl hflt hall hne ho hx0 hq0 hA0 hM hl
  go_enter Try.func105, Try.ntmps105
  go_wp2_with fail
  refine HIX.out.mono ?_
  rintro e w1 ⟨rfl, hb1⟩
  have hrow1 := hrow.same (hb1.block g hg0)
  have hgr1 := below_grown hb1 (some g)
  have hneg : ((k0 : Int) == -1) = false := by rw [beq_eq_false_iff_ne]; omega
  have hneg2 : decide ((k0 : Int) = -1) = false := decide_eq_false (by omega)
  clear hrow hb1
  go_wp2
  go_loopw [5, 6] (fun vi vj wr => ∃ (i j : Nat) (cur : List (List Int)), i < j ∧ j ≤ M ∧ vi = .int .i64 i ∧ vj = .int .i64 j ∧ RowP wr g cap cur ∧ cur.length = M ∧ w.grownBy wr (some g) ∧ Hid (cur.take i = (ps.take j).filter (fun l => !q l) ∧ cur.drop j = ps.drop j ∧ i < M)) (fun _ vj _ => M - (intOf vj).toNat)
  case atStart => exact ⟨k0, k0 + 1, ps, by omega, by omega, rfl, by go_num, hrow1, HNN.out, hgr1, HFL.out.symm, rfl, hk0⟩
  case round =>
    clear hrow1 hgr1
    obtain ⟨i, j, cur, hij, hj, rfl, rfl, hrow, hcl, hgr, hI⟩ := hrel
    have hzr := hgr.size
    have hiM := hI.out.2.2
    by_cases hlt : j < M
    · obtain ⟨l, hx⟩ := at_of_lt (show j < ps.length by have := HNN.out; omega)
      have hxc := (drop_at hI.out.2.1).trans hx
      have hidx := RowP.idx (g := g) (cap := cap) hlt
      have hidi := RowP.idx (g := g) (cap := cap) hiM
      have hc := hrow.cell hxc
      have hc0 := hc 0 (by omega)
      have hc1 := hc 1 (by omega)
      have hc2 := hc 2 (by omega)
      have hc3' := hc 3 (by omega)
      have hc4 := hc 4 (by omega)
      simp only [Nat.add_zero] at hc0
      have hbA := (Below.refl wr.heap.size wr).alloc (Nat.le_refl _) (.cells #[.int .i64 (at5 l 0), .int .i64 (at5 l 1), .int .i64 (at5 l 2), .int .i64 (at5 l 3), .int .i64 (at5 l 4)] 62)
      have hbox := heap_alloc_new wr (.cells #[.int .i64 (at5 l 0), .int .i64 (at5 l 1), .int .i64 (at5 l 2), .int .i64 (at5 l 3), .int .i64 (at5 l 4)] 62)
      obtain ⟨t0, t1, t2, t3, t4⟩ := cells5' hbox
      have hcall := Lib.hid (HCL.out l (List.mem_of_getElem? hx) (wr.alloc (.cells #[.int .i64 (at5 l 0), .int .i64 (at5 l 1), .int .i64 (at5 l 2), .int .i64 (at5 l 3), .int .i64 (at5 l 4)] 62)) (grown_trans hgr (below_grown hbA _)))
      have HX := Lib.hid hx
      have hcurl : cur.length = M := hcl
      clear hc hx hxc
      cases hm : q l
      · have HM := Lib.hid hm; clear hm
        go_wp2_with fail
        refine hcall.out.mono ?_
        rintro e w2 ⟨rfl, hb2⟩
        rw [HM.out]
        have hb02 := hbA.trans (hb2.mono (by simp))
        have hrow2 := hrow.same (hb02.block g hrow.lt)
        obtain ⟨e0, e1, e2, e3, e4⟩ := cells5' ((hb2.block wr.heap.size (by simp)).trans hbox)
        obtain ⟨cu, hcu⟩ := at_of_lt (show i < cur.length by omega)
        have hd := hrow2.cell hcu
        have d0 := hd 0 (by omega)
        have d1 := hd 1 (by omega)
        have d2 := hd 2 (by omega)
        have d3 := hd 3 (by omega)
        have d4 := hd 4 (by omega)
        simp only [Nat.add_zero] at d0
        have hfz := hrow2.frozen
        have f0 := hfz (i * 5)
        have f1 := hfz (i * 5 + 1)
        have f2 := hfz (i * 5 + 2)
        have f3 := hfz (i * 5 + 3)
        have f4 := hfz (i * 5 + 4)
        clear hc0 hc1 hc2 hc3' hc4 t0 t1 t2 t3 t4 hd hfz hcu
        go_wp2
        obtain ⟨W, hW, hrowW, hgW⟩ := hrow2.set (i := i) (by omega) l
        rw [← hW]
        have HN : Hid ((cur.set i l).take (i + 1) = (ps.take (j + 1)).filter (fun l => !q l) ∧ (cur.set i l).drop (j + 1) = ps.drop (j + 1)) := by
          constructor
          · rw [take_set _ _ _ (by omega), hI.out.1, take_snoc HX.out, List.filter_append]; simp [HM.out]
          · rw [drop_set _ _ _ _ (by omega)]; exact drop_next hI.out.2.1
        have hgW' := grown_trans hgr (grown_trans (below_grown hb02 _) hgW)
        clear hW
        go_roundw
        case rel => exact ⟨i + 1, j + 1, cur.set i l, by omega, by omega, by go_num, by go_num, hrowW, by rw [List.length_set]; exact hcurl, hgW', HN.out.1, HN.out.2, by omega⟩
        case measure => simp [intOf]; omega
      · have HM := Lib.hid hm; clear hm
        go_wp2_with fail
        refine hcall.out.mono ?_
        rintro e w2 ⟨rfl, hb2⟩
        rw [HM.out]
        have hb02 := hbA.trans (hb2.mono (by simp))
        have hrow2 := hrow.same (hb02.block g hrow.lt)
        have hgr2 := grown_trans hgr (below_grown hb02 _)
        have HN : Hid (cur.take i = (ps.take (j + 1)).filter (fun l => !q l) ∧ cur.drop (j + 1) = ps.drop (j + 1)) := by
          constructor
          · rw [hI.out.1, take_snoc HX.out, List.filter_append]; simp [HM.out]
          · exact drop_next hI.out.2.1
        clear hc0 hc1 hc2 hc3' hc4 t0 t1 t2 t3 t4 hbox hrow hgr
        go_wp2
        go_roundw
        case rel => exact ⟨i, j + 1, cur, by omega, by omega, rfl, by go_num, hrow2, hcurl, hgr2, HN.out.1, HN.out.2, by omega⟩
        case measure => simp [intOf]; omega
    · obtain rfl : j = M := by omega
      have hfin : Hid (cur.take i = ps.filter (fun l => !q l)) := by
        show _ = _; rw [hI.out.1, List.take_of_length_le (by have := HNN.out; omega)]
      obtain ⟨W, hclr, hrowW, hgW⟩ := run_clearP hrow (i := i) (n := j - i) (c := cap - i) (by omega) (by omega) 0
      go_wp2
      go_ret
      have hown := hrowW.own hBg
      have hli : (cur.take i).length = i := by rw [List.length_take]; omega
      rw [hli] at hown
      refine ⟨_, rfl, ?_, grown_trans hgr hgW, .inl rfl⟩
      rw [← hfin.out]; exact hown

end Go.Proofs.Ytpikecbmooendaa
