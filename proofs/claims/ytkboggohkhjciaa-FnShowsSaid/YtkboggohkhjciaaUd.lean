/- Walks: what runs show and hide, by the program: UnseenOf, AllLists, IsOrdering, Shows. -/
import Derived.Test.YtkboggohkhjciaaUc
namespace Go.Proofs.Ytkboggohkhjciaa
open Go Go.RowKit

theorem alE_row2 {n t : Nat} {r : List Int} (h : r ∈ lsN n t [[]]) : r.length = t ∧ okE ((n : Int) - 1) r = true := alE_row h

set_option maxRecDepth 100000 in
set_option maxHeartbeats 2000000 in
theorem i_lists {n t : Nat} {w : World} (hn : n ≤ 5) (ht : t ≤ 5) :
    Calls Try.prog 55 #[.int .i64 (n : Int), .int .i64 (t : Int)] w (NewII w (alE n t)) := by
  have hn1 := heap_alloc_new w (.cells #[] 3)
  have hn2 := heap_alloc_new (w.alloc (.cells #[] 3)) (.cells #[.slice (some ⟨w.heap.size, 0, none⟩) 0 0] 29)
  have hb := ((Below.refl w.heap.size w).alloc (Nat.le_refl _) (.cells #[] 3)).alloc (by simp) (.cells #[.slice (some ⟨w.heap.size, 0, none⟩) 0 0] 29)
  have hO := OII.one5 (w := w.alloc (.cells #[] 3)) (lo := w.heap.size) (hi := w.heap.size + 1) (t := 29) (c := 0) (n := 0) (a := some ⟨w.heap.size, 0, none⟩) (r := []) rfl ⟨OI.nil _ _ _ _, Nat.le_refl _⟩ (by simp) (by simp)
  simp only [World.size_alloc] at hn2 hO
  obtain ⟨W, hW⟩ : ∃ W, (w.alloc (.cells #[] 3)).alloc (.cells #[.slice (some ⟨w.heap.size, 0, none⟩) 0 0] 29) = W := ⟨_, rfl⟩
  have hWs : W.heap.size = w.heap.size + 2 := by rw [← hW]; simp
  have hS : RSS W w.heap.size W.heap.size (some ⟨w.heap.size + 1, 0, none⟩) [[]] := by
    intro k r hr
    have hk : k = 0 := by have := lt_of_at hr; simp at this; omega
    subst hk
    have e : r = [] := by simpa using hr.symm
    subst e
    rw [hW] at hn2
    exact ⟨w.heap.size + 1, 0, ⟨w.heap.size, 0, none⟩, 0, rfl, by omega, by omega, by rw [cell_of_row _ _ _ _ _ _ hn2]; rfl, RI.nil _ _ _ _⟩
  have hOO : OIIc W w.heap.size W.heap.size (some ⟨w.heap.size + 1, 0, none⟩) 1 [[]] := by
    refine ⟨?_, Nat.le_refl _⟩
    rw [← hW]; simpa using hO
  rw [hW] at hb
  clear hO hn1 hn2
  have HW := Lib.hid hW
  clear hW hWs
  go_enter Try.func55, Try.ntmps55
  go_wp2
  rw [HW.out]
  clear HW
  go_loopw [5, 9] (fun v i wr => ∃ (k : Nat) (a : Option Addr) (c : Nat), k ≤ t ∧ i = .int .i64 k ∧ v = .slice a (alE n k).length c ∧ OIIc wr w.heap.size wr.heap.size a c (alE n k) ∧ RSS wr w.heap.size wr.heap.size a (alE n k) ∧ Below w.heap.size w wr) (fun _ i _ => t - (intOf i).toNat)
  case atStart => exact ⟨0, _, _, Nat.zero_le _, rfl, rfl, hOO, hS, hb⟩
  case round =>
    clear hOO hS hb
    obtain ⟨k, a, c, hk, rfl, rfl, ho, hs, hd⟩ := hrel
    have hz := hd.size
    have hal := alE_len hn (show k ≤ 5 by omega)
    have HROW : Hid (∀ r ∈ alE n k, r.length ≤ 5) := fun r hr => by have := alE_row hr; omega
    by_cases hlt : k < t
    · have HNX : Hid (lnS n (alE n k) = alE n (k + 1)) := (lsN_succ n k [[]]).symm
      have HR2 : Hid (∀ r ∈ alE n (k + 1), r ≠ []) := fun r hr e => by have := (alE_row hr).1; rw [e] at this; simp at this
      obtain ⟨L, hL⟩ : ∃ L, alE n k = L := ⟨_, rfl⟩
      rw [hL] at ho hs hal HROW HNX ⊢
      clear hL ho
      go_wp2_with fail
      refine (i_longer hn hs (Nat.le_refl _) hal HROW.out).mono ?_
      rintro e w2 ⟨v2, rfl, hown, hb2⟩
      obtain ⟨a2, c2, rfl, ho2⟩ := hown.slice
      rw [HNX.out] at ho2 ⊢
      have ho3 : OIIc w2 w.heap.size w2.heap.size a2 c2 (alE n (k + 1)) := ⟨ho2.oii.wide hz (Nat.le_refl _), ho2.cap⟩
      have hs3 := RSS.of ho3.rii HR2.out
      have hd2 := hd.trans (hb2.mono hz)
      clear hown ho2 hs hd hb2 HNX
      go_wp2
      go_roundw
      case rel => exact ⟨k + 1, a2, c2, by omega, by go_num, rfl, ho3, hs3, hd2⟩
      case measure => simp [intOf]; omega
    · have hkt : k = t := by omega
      subst hkt
      go_wp2
      go_ret
      exact ⟨_, _, rfl, ho, hd⟩

set_option maxRecDepth 100000 in
set_option maxHeartbeats 1000000 in
theorem i_shows {n : Int} {T : Nat → Int} {l : List Int} {a : Option Addr} {c lo hi : Nat} {w : World} (hT : ∀ e, 0 ≤ T e ∧ T e ≤ 5) (hl5 : ∀ x ∈ l, 0 ≤ x ∧ x < 5) (hm : RI w lo hi a l) (hB : hi ≤ w.heap.size) (hl : l.length ≤ 9223372036854775807) :
    Calls Try.prog 51 #[.agg (ordV n T), .slice a l.length c] w (NewW w (.bool (ascF (fun e => T e.toNat) l))) := by
  have hrow := heap_alloc_new w (.cells (ordV n T) 60)
  have hbA := (Below.refl w.heap.size w).alloc (Nat.le_refl _) (.cells (ordV n T) 60)
  have hm2 := hm.below hbA hB
  have hC := x_sorted (c := c) hrow hT hl5 hm2 hl
  have HC := Lib.hid hC
  clear hC hrow hm2
  go_enter Try.func51, Try.ntmps51
  go_wp2_with fail
  refine HC.out.mono ?_
  rintro e w2 ⟨rfl, d2⟩
  have d2 : Dr _ w2 := d2
  have hb2 := hbA.trans (Dr.below d2 w.heap.size)
  go_wp2
  go_ret
  exact ⟨rfl, hb2⟩

/-! ### rows of slices chosen out of others -/
def OwnIx (w : World) (B : Nat) (v : Value) (vs : List Value) : Prop := w.ownsRow B 29 1 v vs.length vs
theorem OwnIx.nilv (w : World) (B : Nat) : OwnIx w B (.slice none 0 0) [] := World.ownsRow_nil _ _ _ _
theorem OwnIx.below {w w' : World} {B : Nat} {v : Value} {vs : List Value} (h : OwnIx w B v vs) (hb : Below w.heap.size w w') : OwnIx w' B v vs :=
  World.ownsRow.kept h (row := none) ⟨hb.os, hb.tape, hb.output, hb.size, fun k hk _ => hb.block k hk⟩ (by cases v.ownBlock <;> simp)
theorem wpList_appIx {wr : World} {ops : Array Oper} {rest : List Oper} {o : Oper} {a : Act} {Q : Exit → Act → World → Prop} (hgd : o.guard = none) (s t : Operand)
    (ho : o.op = .call { callee := .builtin .append, args := #[s, t], argTypes := #[23, 23] }) (B : Nat) (v : Value) (vs : List Value) (hs : a.eval s = v) (hown : OwnIx wr B v vs) (a1 : Option Addr) (n1 c1 : Nat)
    (hx : a.eval t = .slice (some ⟨wr.heap.size, 0, none⟩) 1 1) (hl : vs.length ≤ 1099511627776) (hB : B ≤ wr.heap.size)
    (h : ∀ v' w', OwnIx w' B v' (vs ++ [.slice a1 n1 c1]) → Below B wr w' → wpList Try.prog ops Q rest (a.put o.dst v') w') : wpList Try.prog ops Q (o :: rest) a (wr.alloc (.cells #[.slice a1 n1 c1] 29)) := by
  obtain ⟨i0, hi, hz0, hz1, hz2⟩ := info_parts infoI
  refine wpList_append_own _ hgd s t 23 ho B 29 i0 (.slice none 0 0) 1 24 undII hi hz0 hz1 hz2 rfl (by decide) v vs.length vs hs (World.ownsRow.alloc hown _) ⟨wr.heap.size, 0, none⟩ 1 1 [.slice a1 n1 c1] hx rfl ?_ ?_ ?_ ?_ ?_ ?_
  · exact cell_one_new _ _ _
  · intro u hu; simp at hu; subst hu; rfl
  · unfold maxLen; omega
  · omega
  · simp; omega
  · intro v' w' h1 h2 _
    refine h v' w' ?_ ?_
    · unfold OwnIx; rw [List.length_append]; exact h1
    · refine (((Below.refl B wr).alloc hB _).grown h2 (by simp; omega) fun k hk => ?_)
      exact ((World.ownsRow.lt hown) k hk).1

/-- the indices at which the lists lie that are kept -/
def ixF (q : List Int → Bool) (mm : List (List Int)) (k : Nat) : List Nat := (List.range k).filter fun i => q (mm.getD i [])
theorem ixF_yes {q : List Int → Bool} {mm : List (List Int)} {k : Nat} {r : List Int} (hx : mm[k]? = some r) (h : q r = true) : ixF q mm (k + 1) = ixF q mm k ++ [k] := by
  simp [ixF, List.range_succ, List.filter_append, List.getD, hx, h]
theorem ixF_no {q : List Int → Bool} {mm : List (List Int)} {k : Nat} {r : List Int} (hx : mm[k]? = some r) (h : q r = false) : ixF q mm (k + 1) = ixF q mm k := by
  simp [ixF, List.range_succ, List.filter_append, List.getD, hx, h]
theorem ixF_len (q : List Int → Bool) (mm : List (List Int)) (k : Nat) : (ixF q mm k).length ≤ k := by
  unfold ixF; exact Nat.le_trans (List.length_filter_le _ _) (by simp)
theorem ixF_map (q : List Int → Bool) (mm : List (List Int)) : ∀ k, k ≤ mm.length → (ixF q mm k).map (fun i => mm.getD i []) = (mm.take k).filter q
  | 0, _ => by simp [ixF]
  | k + 1, h => by
    obtain ⟨r, hx⟩ := at_of_lt (show k < mm.length by omega)
    have ih := ixF_map q mm k (by omega)
    rw [take_snoc hx, List.filter_append]
    cases hq : q r
    · rw [ixF_no hx hq, ih]; simp [hq]
    · rw [ixF_yes hx hq, List.map_append, ih]; simp [hq, List.getD, hx]
theorem ixF_at {q : List Int → Bool} {mm : List (List Int)} {k j i : Nat} (h : (ixF q mm k)[j]? = some i) : i < k := by
  have := List.mem_of_getElem? h
  simp only [ixF, List.mem_filter, List.mem_range] at this; exact this.1
theorem ixF_nodup (q : List Int → Bool) (mm : List (List Int)) (k : Nat) : (ixF q mm k).Nodup := List.filter_sublist.nodup List.nodup_range
def rowV (A : Nat → Option Addr) (C : Nat → Nat) (mm : List (List Int)) (i : Nat) : Value := .slice (A i) (mm.getD i []).length (C i)
/-- the rows that were chosen, in the slice that holds them -/
theorem OwnIx.oii {w : World} {lo hi B k : Nat} {v : Value} {A : Nat → Option Addr} {C G : Nat → Nat} {mm : List (List Int)} {q : List Int → Bool} (h : OwnIx w B v ((ixF q mm k).map (rowV A C mm))) (hk : k ≤ mm.length) (hf : Fam w lo hi A G mm) (hc : ∀ k r, mm[k]? = some r → r.length ≤ C k)
    (hlo : lo ≤ B) (hhi : hi ≤ B) : ∃ a c, v = .slice a ((mm.take k).filter q).length c ∧ OIIc w lo w.heap.size a c ((mm.take k).filter q) := by
  have hlt := World.ownsRow.lt h
  have hlen : ((ixF q mm k).map (rowV A C mm)).length = ((mm.take k).filter q).length := by rw [← ixF_map q mm k hk, List.length_map, List.length_map]
  have hat : ∀ (j : Nat) (r : List Int), ((mm.take k).filter q)[j]? = some r → ∃ i, (ixF q mm k)[j]? = some i ∧ mm[i]? = some r := by
    intro j r hj
    rw [← ixF_map q mm k hk, List.getElem?_map] at hj
    cases hi : (ixF q mm k)[j]? with
    | none => rw [hi] at hj; cases hj
    | some i =>
      rw [hi] at hj
      have hil := ixF_at hi
      obtain ⟨r', hr'⟩ := at_of_lt (show i < mm.length by omega)
      have e : r' = r := by simpa [List.getD, hr'] using hj
      exact ⟨i, rfl, by rw [← e]; exact hr'⟩
  rcases h.2 with ⟨rfl, h0⟩ | ⟨g, cap, cur, rfl, hb, hg, hn, hm, hs, ht⟩
  · have e : (mm.take k).filter q = [] := List.eq_nil_of_length_eq_zero (by omega)
    rw [e]
    exact ⟨none, 0, rfl, OII.nil _ _ _ _, by simp⟩
  · rw [hlen] at hn ⊢
    have hgl := hlt g rfl
    refine ⟨_, _, rfl, .inr ⟨g, 0, fun j => A ((ixF q mm k).getD j 0), fun j => C ((ixF q mm k).getD j 0), fun j => G ((ixF q mm k).getD j 0), rfl, by omega, hgl.2, ?_, ?_, ⟨?_, ?_, ?_⟩, ?_⟩, hn⟩
    · intro j r hj
      obtain ⟨i, hi, hr⟩ := hat j r hj
      rw [Nat.zero_add, cell_of_row w g j cur _ (0, 0) hg]
      have e2 : ((ixF q mm k).map (rowV A C mm))[j]? = some (rowV A C mm i) := by rw [List.getElem?_map, hi]; rfl
      rw [← ht, List.getElem?_take] at e2
      have e3 : (ixF q mm k).getD j 0 = i := by simp [List.getD, hi]
      rw [e3]
      have e4 : rowV A C mm i = .slice (A i) r.length (C i) := by unfold rowV; simp [List.getD, hr]
      rw [e4] at e2
      split at e2
      · simpa using e2
      · cases e2
    · intro j r hj
      obtain ⟨i, hi, hr⟩ := hat j r hj
      have e3 : (ixF q mm k).getD j 0 = i := by simp [List.getD, hi]
      show r.length ≤ C _
      rw [e3]; exact hc i r hr
    · intro j r hj
      obtain ⟨i, hi, hr⟩ := hat j r hj
      have e3 : (ixF q mm k).getD j 0 = i := by simp [List.getD, hi]
      simp only [e3]; exact hf.row i r hr
    · intro j r hj hne
      obtain ⟨i, hi, hr⟩ := hat j r hj
      have e3 : (ixF q mm k).getD j 0 = i := by simp [List.getD, hi]
      simp only [e3]; have := hf.rlo i r hr hne; omega
    · intro j1 j2 r r' hjj hj1 hj2 hne hne'
      obtain ⟨i1, hi1, hr1⟩ := hat j1 r hj1
      obtain ⟨i2, hi2, hr2⟩ := hat j2 r' hj2
      have e1 : (ixF q mm k).getD j1 0 = i1 := by simp [List.getD, hi1]
      have e2 : (ixF q mm k).getD j2 0 = i2 := by simp [List.getD, hi2]
      simp only [e1, e2]
      have hne12 : i1 ≠ i2 := nodup_at (ixF_nodup q mm k) hi1 hi2 hjj
      rcases Nat.lt_or_gt_of_ne hne12 with hl | hl
      · exact hf.dis i1 i2 r r' hl hr1 hr2 hne hne'
      · exact Ne.symm (hf.dis i2 i1 r' r hl hr2 hr1 hne' hne)
    · intro j r hj hne
      obtain ⟨i, hi, hr⟩ := hat j r hj
      have e3 : (ixF q mm k).getD j 0 = i := by simp [List.getD, hi]
      simp only [e3]; have := hf.rlo i r hr hne; omega

theorem i_hides {n : Int} {T : Nat → Int} {l : List Int} {b : Nat} {a : Option Addr} {c lo hi : Nat} {w : World} (hrow : w.heap[b]? = some (.cells (ordV n T) 60 (0, 0))) (hT : ∀ e, 0 ≤ T e ∧ T e ≤ 5) (hl5 : ∀ x ∈ l, 0 ≤ x ∧ x < 5) (hm : RI w lo hi a l) (hB : hi ≤ w.heap.size) (hl : l.length ≤ 9223372036854775807) :
    Calls Try.prog 68 #[.slice a l.length c, .pointer (some ⟨b, 0, none⟩)] w (NewW w (.bool (!ascF (fun e => T e.toNat) l))) := by
  obtain ⟨c0, c1, c2, c3, c4, c5⟩ := ordV_cells hrow
  have hC := i_shows (n := n) (c := c) hT hl5 hm hB hl
  have HC := Lib.hid hC
  clear hC hrow
  go_enter Try.func68, Try.ntmps68
  go_wp2_with fail
  refine HC.out.mono ?_
  rintro e w2 ⟨rfl, b2⟩
  go_wp2
  go_ret
  exact ⟨rfl, b2⟩

set_option maxRecDepth 100000 in
set_option maxHeartbeats 2000000 in
theorem i_keptL {n : Int} {T : Nat → Int} {mm : List (List Int)} {b : Nat} {a : Option Addr} {c lo hi : Nat} {w : World} (hrow : w.heap[b]? = some (.cells (ordV n T) 60 (0, 0))) (hT : ∀ e, 0 ≤ T e ∧ T e ≤ 5) (hl5 : ∀ l ∈ mm, l.length ≤ 5 ∧ ∀ x ∈ l, 0 ≤ x ∧ x < 5) (hm : OIIc w lo hi a c mm) (hB : hi ≤ w.heap.size) (hlo : lo ≤ w.heap.size) (hl : mm.length ≤ 1048576) :
    Calls Try.prog 67 #[.slice a mm.length c, .func (.func 68) #[] #[.pointer (some ⟨b, 0, none⟩)]] w (fun e w' => ∃ a' c', e = .returned (.slice a' (mm.filter fun l => !ascF (fun e => T e.toNat) l).length c') ∧ OIIc w' lo w'.heap.size a' c' (mm.filter fun l => !ascF (fun e => T e.toNat) l) ∧ Below w.heap.size w w') := by
  have HL5 := Lib.hid hl5
  have hbw : b < w.heap.size := (Array.getElem?_eq_some_iff.1 hrow).1
  have HHID : Hid (∀ (w' : World) (l : List Int) (a' : Option Addr) (c' : Nat), Below w.heap.size w w' → l ∈ mm → RI w' lo hi a' l → Calls Try.prog 68 #[.slice a' l.length c', .pointer (some ⟨b, 0, none⟩)] w' (NewW w' (.bool (!ascF (fun e => T e.toNat) l)))) := fun w' l a' c' hb hmem hr =>
    i_hides ((hb.block b hbw).trans hrow) hT (hl5 l hmem).2 hr (by have := hb.size; omega) (by have := (hl5 l hmem).1; omega)
  obtain ⟨q, hq⟩ : ∃ q : List Int → Bool, (fun l => !ascF (fun e => T e.toNat) l) = q := ⟨_, rfl⟩
  have HHID : Hid (∀ (w' : World) (l : List Int) (a' : Option Addr) (c' : Nat), Below w.heap.size w w' → l ∈ mm → RI w' lo hi a' l → Calls Try.prog 68 #[.slice a' l.length c', .pointer (some ⟨b, 0, none⟩)] w' (NewW w' (.bool (q l)))) := by rw [← hq]; exact HHID
  rw [hq]
  clear hl5 hrow hT hq
  have hcap := hm.cap
  rcases hm.oii with h0 | ⟨g, o, A, C, G, ha, hrws⟩
  · subst h0
    clear hm
    go_enter Try.func67, Try.ntmps67
    go_wp2
    go_loopw [5, 10] (fun v i wr => i = .int .i64 0 ∧ v = .slice none 0 0 ∧ wr = w) (fun _ _ _ => 0)
    case atStart => exact ⟨rfl, rfl, rfl⟩
    case round =>
      obtain ⟨rfl, rfl, rfl⟩ := hrel
      go_wp2
      go_ret
      exact ⟨none, 0, rfl, ⟨OII.nil _ _ _ _, by simp⟩, Below.refl _ _⟩
  obtain ⟨M, hM⟩ : ∃ M, mm.length = M := ⟨_, rfl⟩
  have HM := Lib.hid hM
  have HRWS := Lib.hid hrws
  rw [hM] at hl hcap ⊢
  clear hM hm
  subst ha
  go_enter Try.func67, Try.ntmps67
  go_wp2
  go_loopw [5, 10] (fun v i wr => ∃ k : Nat, k ≤ M ∧ i = .int .i64 k ∧ OwnIx wr w.heap.size v ((ixF q mm k).map (rowV A C mm)) ∧ Below w.heap.size w wr) (fun _ i _ => M - (intOf i).toNat)
  case atStart => exact ⟨0, Nat.zero_le _, rfl, OwnIx.nilv _ _, Below.refl _ _⟩
  case round =>
    obtain ⟨k, hk, rfl, hown, hd⟩ := hrel
    have hz := hd.size
    by_cases hlt : k < M
    · obtain ⟨r, hx⟩ := at_of_lt (show k < mm.length by have := HM.out; omega)
      have hcell := (hd.cell (p := ⟨g, o + k, none⟩) (by show g < _; have := HRWS.out.bhi; omega)).trans (HRWS.out.cell k r hx)
      have hidx := idxII (a := some ⟨g, o, none⟩) rfl hlt c
      have hri : RI wr lo hi (A k) r := by
        by_cases hne : r = []
        · subst hne; exact RI.nil _ _ _ _
        · have h1 := HRWS.out.fam.rlo k r hx hne
          exact ((HRWS.out.fam.row k r hx).ri.wide (lo' := lo) (hi' := hi) h1.1 (by omega)).below hd hB
      have HC := Lib.hid (HHID.out wr r (A k) (C k) hd (List.mem_of_getElem? hx) hri)
      have HX := Lib.hid hx
      have hil := ixF_len q mm k
      have hgd : mm.getD k [] = r := by simp [List.getD, hx]
      clear hx hri
      cases hq : q r
      · have HQ := Lib.hid hq
        have HI := Lib.hid (ixF_no HX.out hq)
        clear hq hgd
        go_wp2_with fail
        refine HC.out.mono ?_
        rintro e w2 ⟨rfl, b2⟩
        rw [HQ.out]
        have hown2 := hown.below b2
        rw [← HI.out] at hown2
        have hd2 := hd.trans (b2.mono hz)
        clear hown hd b2
        go_wp2
        go_roundw
        case rel => exact ⟨k + 1, by omega, by go_num, hown2, hd2⟩
        case measure => simp [intOf]; omega
      · have HQ := Lib.hid hq
        have HI : Hid ((ixF q mm k).map (rowV A C mm) ++ [.slice (A k) r.length (C k)] = (ixF q mm (k + 1)).map (rowV A C mm)) := by
          show _ = _; rw [ixF_yes HX.out hq, List.map_append]; simp [rowV, HX.out, List.getD]
        clear hq hgd
        have hvl : ((ixF q mm k).map (rowV A C mm)).length ≤ 1099511627776 := by rw [List.length_map]; omega
        obtain ⟨vs, hvs⟩ : ∃ vs, (ixF q mm k).map (rowV A C mm) = vs := ⟨_, rfl⟩
        rw [hvs] at hown HI hvl
        clear hvs
        go_wp2_with fail
        refine HC.out.mono ?_
        rintro e w2 ⟨rfl, b2⟩
        rw [HQ.out]
        have hown2 := hown.below b2
        have hd2 := hd.trans (b2.mono hz)
        have hz2 := hd2.size
        clear hown hd b2 hcell
        go_wp2_with (first
          | (at_builtin; refine wpList_appIx rfl _ _ rfl w.heap.size _ vs rfl hown2 _ _ _ rfl hvl (by omega) ?_; intro v6 w6 hown6 hb6)
          | go_in)
        rw [HI.out] at hown6
        have hd6 := hd2.trans hb6
        clear hown2 hb6 hd2
        go_roundw
        case rel => exact ⟨k + 1, by omega, by go_num, hown6, hd6⟩
        case measure => simp [intOf]; omega
    · have hkM : k = M := by omega
      have HKE : Hid (mm.take k = mm) := List.take_of_length_le (by have := HM.out; omega)
      have hml : k ≤ mm.length := by have := HM.out; omega
      have hfam : Fam wr lo hi A G mm := HRWS.out.fam.same fun j r hj hne => hd.block _ (by have := HRWS.out.fam.rlo j r hj hne; omega)
      obtain ⟨a2, c2, hv, ho2⟩ := hown.oii hml hfam HRWS.out.cap hlo hB
      rw [HKE.out] at hv ho2
      have HV := Lib.hid hv
      clear hv hown hkM hfam
      go_wp2
      go_ret
      have hv := HV.out
      cases hv
      exact ⟨_, _, rfl, ho2, hd⟩

set_option maxRecDepth 100000 in
set_option maxHeartbeats 1000000 in
theorem i_hidden {n : Int} {T : Nat → Int} {mm : List (List Int)} {a : Option Addr} {c lo hi : Nat} {w : World} (hT : ∀ e, 0 ≤ T e ∧ T e ≤ 5) (hl5 : ∀ l ∈ mm, l.length ≤ 5 ∧ ∀ x ∈ l, 0 ≤ x ∧ x < 5) (hm : OIIc w lo hi a c mm) (hB : hi ≤ w.heap.size) (hlo : lo ≤ w.heap.size) (hl : mm.length ≤ 1048576) :
    Calls Try.prog 56 #[.agg (ordV n T), .slice a mm.length c] w (fun e w' => ∃ a' c', e = .returned (.slice a' (mm.filter fun l => !ascF (fun e => T e.toNat) l).length c') ∧ OIIc w' lo w'.heap.size a' c' (mm.filter fun l => !ascF (fun e => T e.toNat) l) ∧ Below w.heap.size w w') := by
  have hrow := heap_alloc_new w (.cells (ordV n T) 60)
  have hbA := (Below.refl w.heap.size w).alloc (Nat.le_refl _) (.cells (ordV n T) 60)
  have hm2 := hm.below hbA hB
  have HC := Lib.hid (i_keptL hrow hT hl5 hm2 (by simp; omega) (by simp; omega) hl)
  clear hrow hm2 hl5 hT
  obtain ⟨L, hL⟩ : ∃ L, (mm.filter fun l => !ascF (fun e => T e.toNat) l) = L := ⟨_, rfl⟩
  rw [hL] at HC ⊢
  clear hL
  go_enter Try.func56, Try.ntmps56
  go_wp2_with fail
  refine HC.out.mono ?_
  rintro e w2 ⟨a2, c2, rfl, h2, b2⟩
  have hb2 := hbA.trans (b2.mono (by simp))
  go_wp2
  go_ret
  exact ⟨a2, c2, rfl, h2, hb2⟩

end Go.Proofs.Ytkboggohkhjciaa
