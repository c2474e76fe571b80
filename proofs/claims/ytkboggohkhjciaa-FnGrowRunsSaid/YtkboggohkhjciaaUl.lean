/- Walks: GrowRuns. -/
import Derived.Test.YtkboggohkhjciaaUk
namespace Go.Proofs.Ytkboggohkhjciaa
open Go Go.RowKit

/-- A slice of lists whose rows lie in blocks lo ≤ b < hi, and whose own block lies there too or at B or above. -/
def OIX (w : World) (lo hi B : Nat) (a : Option Addr) (c : Nat) (mm : List (List Int)) : Prop :=
  mm.length ≤ c ∧ (mm = [] ∨ ∃ (g o : Nat) (A : Nat → Option Addr) (C G : Nat → Nat), a = some ⟨g, o, none⟩ ∧ (B ≤ g ∨ (lo ≤ g ∧ g < hi)) ∧ g < w.heap.size ∧ (∀ k r, mm[k]? = some r → w.cell? ⟨g, o + k, none⟩ = some (.slice (A k) r.length (C k))) ∧ (∀ k r, mm[k]? = some r → r.length ≤ C k) ∧ Fam w lo hi A G mm ∧ ∀ k r, mm[k]? = some r → r ≠ [] → G k ≠ g)
theorem OIX.of {w : World} {lo hi B c : Nat} {a : Option Addr} {mm : List (List Int)} (h : OIIc w lo hi a c mm) (hB : hi ≤ w.heap.size) : OIX w lo hi B a c mm := by
  refine ⟨h.cap, ?_⟩
  rcases h.oii with h0 | ⟨g, o, A, C, G, ha, hr⟩
  · exact .inl h0
  · exact .inr ⟨g, o, A, C, G, ha, .inr ⟨hr.blo, hr.bhi⟩, by have := hr.bhi; omega, hr.cell, hr.cap, hr.fam, hr.off⟩
/-- .. where its own block and the blocks lo ≤ b < hi have not turned -/
theorem OIX.kept {w w' : World} {lo hi B c : Nat} {a : Option Addr} {mm : List (List Int)} (h : OIX w lo hi B a c mm) (hb : ∀ k, k < hi → w'.heap[k]? = w.heap[k]?) (hg : ∀ g, B ≤ g → g < w.heap.size → w'.heap[g]? = w.heap[g]?) (hs : w.heap.size ≤ w'.heap.size) : OIX w' lo hi B a c mm := by
  refine ⟨h.1, ?_⟩
  rcases h.2 with h0 | ⟨g, o, A, C, G, ha, hgB, hgs, hce, hca, hfa, hof⟩
  · exact .inl h0
  · have hgg : w'.heap[g]? = w.heap[g]? := hgB.elim (fun h1 => hg g h1 hgs) fun h1 => hb g h1.2
    exact .inr ⟨g, o, A, C, G, ha, hgB, by omega, fun k r e => (World.cell?_of_block (w := w) hgg).trans (hce k r e), hca, hfa.same fun k r e he => hb _ (hfa.rlo k r e he).2, hof⟩
theorem OIX.below {w w' : World} {lo hi B c : Nat} {a : Option Addr} {mm : List (List Int)} (h : OIX w lo hi B a c mm) (hb : Below w.heap.size w w') (hB : hi ≤ w.heap.size) : OIX w' lo hi B a c mm :=
  h.kept (fun k hk => hb.block k (by omega)) (fun g _ hg => hb.block g hg) hb.size
theorem OIX.lower {w : World} {lo hi B B' c : Nat} {a : Option Addr} {mm : List (List Int)} (h : OIX w lo hi B a c mm) (hb : B' ≤ B) : OIX w lo hi B' a c mm := by
  refine ⟨h.1, ?_⟩
  rcases h.2 with h0 | ⟨g, o, A, C, G, ha, hgB, r⟩
  · exact .inl h0
  · exact .inr ⟨g, o, A, C, G, ha, hgB.elim (fun h1 => .inl (by omega)) .inr, r⟩
theorem OIX.rii {w : World} {lo hi B c : Nat} {a : Option Addr} {mm : List (List Int)} (h : OIX w lo hi B a c mm) (hB : hi ≤ w.heap.size) : RII w 0 w.heap.size a mm := by
  rcases h.2 with h0 | ⟨g, o, A, C, G, ha, hgB, hgs, hce, hca, hfa, hof⟩
  · subst h0; exact RII.nil _ _ _ _
  · intro k hk
    obtain ⟨r, hr⟩ := at_of_lt hk
    refine ⟨g, o, A k, C k, r, ha, Nat.zero_le _, hgs, hr, hce k r hr, ?_, hca k r hr⟩
    by_cases hne : r = []
    · subst hne; exact RI.nil _ _ _ _
    · have := hfa.rlo k r hr hne
      exact (hfa.row k r hr).ri.wide (Nat.zero_le _) (by omega)
/-- the rows that were chosen, in the slice that holds them -/
theorem OwnIx.oix {w : World} {lo hi B k : Nat} {v : Value} {A : Nat → Option Addr} {C G : Nat → Nat} {mm : List (List Int)} {q : List Int → Bool} (h : OwnIx w B v ((ixF q mm k).map (rowV A C mm))) (hk : k ≤ mm.length) (hf : Fam w lo hi A G mm) (hc : ∀ k r, mm[k]? = some r → r.length ≤ C k) (hhi : hi ≤ B) : ∃ a c, v = .slice a ((mm.take k).filter q).length c ∧ OIX w lo hi B a c ((mm.take k).filter q) := by
  have hlt := World.ownsRow.lt h
  have hlen : ((ixF q mm k).map (rowV A C mm)).length = ((mm.take k).filter q).length := by rw [← ixF_map q mm k hk, List.length_map, List.length_map]
  have hat : ∀ (j : Nat) (r : List Int), ((mm.take k).filter q)[j]? = some r → ∃ i, (ixF q mm k)[j]? = some i ∧ mm[i]? = some r := by
    intro j r hj
    rw [← ixF_map q mm k hk, List.getElem?_map] at hj
    cases hi : (ixF q mm k)[j]? with
    | none => rw [hi] at hj; cases hj
    | some i =>
      rw [hi] at hj
      have hil := ixF_at hi
      obtain ⟨r', hr'⟩ := at_of_lt (show i < mm.length by omega)
      have e : r' = r := by simpa [List.getD, hr'] using hj
      exact ⟨i, rfl, by rw [← e]; exact hr'⟩
  rcases h.2 with ⟨rfl, h0⟩ | ⟨g, cap, cur, rfl, hb, hg, hn, hm, hs, ht⟩
  · have e : (mm.take k).filter q = [] := List.eq_nil_of_length_eq_zero (by omega)
    rw [e]
    exact ⟨none, 0, rfl, ⟨by simp, .inl rfl⟩⟩
  · rw [hlen] at hn ⊢
    have hgl := hlt g rfl
    refine ⟨_, _, rfl, hn, .inr ⟨g, 0, fun j => A ((ixF q mm k).getD j 0), fun j => C ((ixF q mm k).getD j 0), fun j => G ((ixF q mm k).getD j 0), rfl, .inl hgl.1, hgl.2, ?_, ?_, ⟨?_, ?_, ?_⟩, ?_⟩⟩
    · intro j r hj
      obtain ⟨i, hi, hr⟩ := hat j r hj
      rw [Nat.zero_add, cell_of_row w g j cur _ (0, 0) hg]
      have e2 : ((ixF q mm k).map (rowV A C mm))[j]? = some (rowV A C mm i) := by rw [List.getElem?_map, hi]; rfl
      rw [← ht, List.getElem?_take] at e2
      have e3 : (ixF q mm k).getD j 0 = i := by simp [List.getD, hi]
      show cur[j]? = some (Value.slice (A ((ixF q mm k).getD j 0)) r.length (C ((ixF q mm k).getD j 0)))
      rw [e3]
      have e4 : rowV A C mm i = .slice (A i) r.length (C i) := by unfold rowV; simp [List.getD, hr]
      rw [e4] at e2
      split at e2
      · simpa using e2
      · cases e2
    · intro j r hj
      obtain ⟨i, hi, hr⟩ := hat j r hj
      have e3 : (ixF q mm k).getD j 0 = i := by simp [List.getD, hi]
      show r.length ≤ C _
      rw [e3]; exact hc i r hr
    · intro j r hj
      obtain ⟨i, hi, hr⟩ := hat j r hj
      have e3 : (ixF q mm k).getD j 0 = i := by simp [List.getD, hi]
      simp only [e3]; exact hf.row i r hr
    · intro j r hj hne
      obtain ⟨i, hi, hr⟩ := hat j r hj
      have e3 : (ixF q mm k).getD j 0 = i := by simp [List.getD, hi]
      simp only [e3]; exact hf.rlo i r hr hne
    · intro j1 j2 r r' hjj hj1 hj2 hne hne'
      obtain ⟨i1, hi1, hr1⟩ := hat j1 r hj1
      obtain ⟨i2, hi2, hr2⟩ := hat j2 r' hj2
      have e1 : (ixF q mm k).getD j1 0 = i1 := by simp [List.getD, hi1]
      have e2 : (ixF q mm k).getD j2 0 = i2 := by simp [List.getD, hi2]
      simp only [e1, e2]
      have hne12 : i1 ≠ i2 := nodup_at (ixF_nodup q mm k) hi1 hi2 hjj
      rcases Nat.lt_or_gt_of_ne hne12 with hl | hl
      · exact hf.dis i1 i2 r r' hl hr1 hr2 hne hne'
      · exact Ne.symm (hf.dis i2 i1 r' r hl hr2 hr1 hne' hne)
    · intro j r hj hne
      obtain ⟨i, hi, hr⟩ := hat j r hj
      have e3 : (ixF q mm k).getD j 0 = i := by simp [List.getD, hi]
      simp only [e3]; have := hf.rlo i r hr hne; omega

set_option maxRecDepth 100000 in
set_option maxHeartbeats 2000000 in
theorem i_keptX {n : Int} {T : Nat → Int} {mm : List (List Int)} {b : Nat} {a : Option Addr} {c lo hi Bq : Nat} {w : World} (hrow : w.heap[b]? = some (.cells (ordV n T) 60 (0, 0))) (hT : ∀ e, 0 ≤ T e ∧ T e ≤ 5) (hl5 : ∀ l ∈ mm, l.length ≤ 5 ∧ ∀ x ∈ l, 0 ≤ x ∧ x < 5) (hm : OIX w lo hi Bq a c mm) (hB : hi ≤ w.heap.size) (_hlo : lo ≤ hi) (hl : mm.length ≤ 1048576) :
    Calls Try.prog 67 #[.slice a mm.length c, .func (.func 68) #[] #[.pointer (some ⟨b, 0, none⟩)]] w (fun e w' => ∃ a' c', e = .returned (.slice a' (mm.filter fun l => !ascF (fun e => T e.toNat) l).length c') ∧ OIX w' lo hi w.heap.size a' c' (mm.filter fun l => !ascF (fun e => T e.toNat) l) ∧ Below w.heap.size w w') := by
  have HL5 := Lib.hid hl5
  have hbw : b < w.heap.size := (Array.getElem?_eq_some_iff.1 hrow).1
  have HHID : Hid (∀ (w' : World) (l : List Int) (a' : Option Addr) (c' : Nat), Below w.heap.size w w' → l ∈ mm → RI w' lo hi a' l → Calls Try.prog 68 #[.slice a' l.length c', .pointer (some ⟨b, 0, none⟩)] w' (NewW w' (.bool (!ascF (fun e => T e.toNat) l)))) := fun w' l a' c' hb hmem hr =>
    i_hides ((hb.block b hbw).trans hrow) hT (hl5 l hmem).2 hr (by have := hb.size; omega) (by have := (hl5 l hmem).1; omega)
  obtain ⟨q, hq⟩ : ∃ q : List Int → Bool, (fun l => !ascF (fun e => T e.toNat) l) = q := ⟨_, rfl⟩
  have HHID : Hid (∀ (w' : World) (l : List Int) (a' : Option Addr) (c' : Nat), Below w.heap.size w w' → l ∈ mm → RI w' lo hi a' l → Calls Try.prog 68 #[.slice a' l.length c', .pointer (some ⟨b, 0, none⟩)] w' (NewW w' (.bool (q l)))) := by rw [← hq]; exact HHID
  rw [hq]
  clear hl5 hrow hT hq
  have hcap := hm.1
  rcases hm.2 with h0 | ⟨g, o, A, C, G, ha, hgB, hgs, hce, hca, hfa, hof⟩
  · subst h0
    clear hm
    go_enter Try.func67, Try.ntmps67
    go_wp2
    go_loopw [5, 10] (fun v i wr => i = .int .i64 0 ∧ v = .slice none 0 0 ∧ wr = w) (fun _ _ _ => 0)
    case atStart => exact ⟨rfl, rfl, rfl⟩
    case round =>
      obtain ⟨rfl, rfl, rfl⟩ := hrel
      go_wp2
      go_ret
      exact ⟨none, 0, rfl, ⟨by simp, .inl rfl⟩, Below.refl _ _⟩
  obtain ⟨M, hM⟩ : ∃ M, mm.length = M := ⟨_, rfl⟩
  have HM := Lib.hid hM
  have HCE := Lib.hid hce
  have HCA := Lib.hid hca
  have HFA := Lib.hid hfa
  rw [hM] at hl hcap ⊢
  clear hM hm hce hca hfa hof hgB
  subst ha
  go_enter Try.func67, Try.ntmps67
  go_wp2
  go_loopw [5, 10] (fun v i wr => ∃ k : Nat, k ≤ M ∧ i = .int .i64 k ∧ OwnIx wr w.heap.size v ((ixF q mm k).map (rowV A C mm)) ∧ Below w.heap.size w wr) (fun _ i _ => M - (intOf i).toNat)
  case atStart => exact ⟨0, Nat.zero_le _, rfl, OwnIx.nilv _ _, Below.refl _ _⟩
  case round =>
    obtain ⟨k, hk, rfl, hown, hd⟩ := hrel
    have hz := hd.size
    by_cases hlt : k < M
    · obtain ⟨r, hx⟩ := at_of_lt (show k < mm.length by have := HM.out; omega)
      have hcell := (hd.cell (p := ⟨g, o + k, none⟩) (by show g < _; omega)).trans (HCE.out k r hx)
      have hidx := idxII (a := some ⟨g, o, none⟩) rfl hlt c
      have hri : RI wr lo hi (A k) r := by
        by_cases hne : r = []
        · subst hne; exact RI.nil _ _ _ _
        · have h1 := HFA.out.rlo k r hx hne
          exact ((HFA.out.row k r hx).ri.wide (lo' := lo) (hi' := hi) h1.1 (by omega)).below hd hB
      have HC := Lib.hid (HHID.out wr r (A k) (C k) hd (List.mem_of_getElem? hx) hri)
      have HX := Lib.hid hx
      have hil := ixF_len q mm k
      have hgd : mm.getD k [] = r := by simp [List.getD, hx]
      clear hx hri
      cases hq : q r
      · have HQ := Lib.hid hq
        have HI := Lib.hid (ixF_no HX.out hq)
        clear hq hgd
        go_wp2_with fail
        refine HC.out.mono ?_
        rintro e w2 ⟨rfl, b2⟩
        rw [HQ.out]
        have hown2 := hown.below b2
        rw [← HI.out] at hown2
        have hd2 := hd.trans (b2.mono hz)
        clear hown hd b2
        go_wp2
        go_roundw
        case rel => exact ⟨k + 1, by omega, by go_num, hown2, hd2⟩
        case measure => simp [intOf]; omega
      · have HQ := Lib.hid hq
        have HI : Hid ((ixF q mm k).map (rowV A C mm) ++ [.slice (A k) r.length (C k)] = (ixF q mm (k + 1)).map (rowV A C mm)) := by
          show _ = _; rw [ixF_yes HX.out hq, List.map_append]; simp [rowV, HX.out, List.getD]
        clear hq hgd
        have hvl : ((ixF q mm k).map (rowV A C mm)).length ≤ 1099511627776 := by rw [List.length_map]; omega
        obtain ⟨vs, hvs⟩ : ∃ vs, (ixF q mm k).map (rowV A C mm) = vs := ⟨_, rfl⟩
        rw [hvs] at hown HI hvl
        clear hvs
        go_wp2_with fail
        refine HC.out.mono ?_
        rintro e w2 ⟨rfl, b2⟩
        rw [HQ.out]
        have hown2 := hown.below b2
        have hd2 := hd.trans (b2.mono hz)
        have hz2 := hd2.size
        clear hown hd b2 hcell
        go_wp2_with (first
          | (at_builtin; refine wpList_appIx rfl _ _ rfl w.heap.size _ vs rfl hown2 _ _ _ rfl hvl (by omega) ?_; intro v6 w6 hown6 hb6)
          | go_in)
        rw [HI.out] at hown6
        have hd6 := hd2.trans hb6
        clear hown2 hb6 hd2
        go_roundw
        case rel => exact ⟨k + 1, by omega, by go_num, hown6, hd6⟩
        case measure => simp [intOf]; omega
    · have hkM : k = M := by omega
      have HKE : Hid (mm.take k = mm) := List.take_of_length_le (by have := HM.out; omega)
      have hml : k ≤ mm.length := by have := HM.out; omega
      have hfam : Fam wr lo hi A G mm := HFA.out.same fun j r hj hne => hd.block _ (by have := HFA.out.rlo j r hj hne; omega)
      obtain ⟨a2, c2, hv, ho2⟩ := hown.oix hml hfam HCA.out hB
      rw [HKE.out] at hv ho2
      have HV := Lib.hid hv
      clear hv hown hkM hfam
      go_wp2
      go_ret
      have hv := HV.out
      cases hv
      exact ⟨_, _, rfl, ho2, hd⟩

set_option maxRecDepth 100000 in
set_option maxHeartbeats 1000000 in
theorem i_hiddenX {n : Int} {T : Nat → Int} {mm : List (List Int)} {a : Option Addr} {c lo hi Bq : Nat} {w : World} (hT : ∀ e, 0 ≤ T e ∧ T e ≤ 5) (hl5 : ∀ l ∈ mm, l.length ≤ 5 ∧ ∀ x ∈ l, 0 ≤ x ∧ x < 5) (hm : OIX w lo hi Bq a c mm) (hB : hi ≤ w.heap.size) (hlo : lo ≤ hi) (hl : mm.length ≤ 1048576) :
    Calls Try.prog 56 #[.agg (ordV n T), .slice a mm.length c] w (fun e w' => ∃ a' c', e = .returned (.slice a' (mm.filter fun l => !ascF (fun e => T e.toNat) l).length c') ∧ OIX w' lo hi w.heap.size a' c' (mm.filter fun l => !ascF (fun e => T e.toNat) l) ∧ Below w.heap.size w w') := by
  have hrow := heap_alloc_new w (.cells (ordV n T) 60)
  have hbA := (Below.refl w.heap.size w).alloc (Nat.le_refl _) (.cells (ordV n T) 60)
  have hm2 := hm.below hbA hB
  have HC := Lib.hid (i_keptX hrow hT hl5 hm2 (by simp; omega) hlo hl)
  clear hrow hm2 hl5 hT
  obtain ⟨L, hL⟩ : ∃ L, (mm.filter fun l => !ascF (fun e => T e.toNat) l) = L := ⟨_, rfl⟩
  rw [hL] at HC ⊢
  clear hL
  go_enter Try.func56, Try.ntmps56
  go_wp2_with fail
  refine HC.out.mono ?_
  rintro e w2 ⟨a2, c2, rfl, h2, b2⟩
  have hb2 := hbA.trans (b2.mono (by simp))
  go_wp2
  go_ret
  exact ⟨a2, c2, rfl, h2.lower (by simp), hb2⟩

def BrI (left all : List (List Int)) (k : Nat) (rb : List Int) (lst : Nat) : Prop := (k = 0 ∧ rb = [] ∧ lst = left.length + 1) ∨ (0 < k ∧ rb = bstL (nwN left) (all.take k) ∧ lst + nwN left rb = left.length)
theorem take_ne {all : List (List Int)} {k : Nat} {r : List Int} (hk : 0 < k) (hx : all[k]? = some r) : all.take k ≠ [] := by
  intro e
  have h9 := congrArg List.length e
  have := lt_of_at hx
  rw [List.length_take, List.length_nil] at h9
  omega
theorem BrI.yes {left all : List (List Int)} {k lst : Nat} {rb r : List Int} (h : BrI left all k rb lst) (hx : all[k]? = some r) (hl : (hidA r left).length < lst) : BrI left all (k + 1) r (hidA r left).length := by
  have hlen := hid_nw left r
  refine .inr ⟨by omega, ?_, by omega⟩
  rw [take_snoc hx]
  rcases h with ⟨rfl, _, _⟩ | ⟨hk, hb, hs⟩
  · rw [List.take_zero, List.nil_append, bstL_one]
  · rw [bstL_snoc _ _ (take_ne hk hx), ← hb]
    unfold btr; rw [if_pos (by omega)]
theorem BrI.no {left all : List (List Int)} {k lst : Nat} {rb r : List Int} (h : BrI left all k rb lst) (hx : all[k]? = some r) (hl : ¬ (hidA r left).length < lst) : BrI left all (k + 1) rb lst := by
  have hlen := hid_nw left r
  rcases h with ⟨_, _, hs⟩ | ⟨hk, hb, hs⟩
  · omega
  · refine .inr ⟨by omega, ?_, hs⟩
    rw [take_snoc hx, bstL_snoc _ _ (take_ne hk hx), ← hb]
    unfold btr; rw [if_neg (by omega)]
theorem BrI.done {left all : List (List Int)} {k lst : Nat} {rb : List Int} (h : BrI left all k rb lst) (hk : all.length ≤ k) (h0 : all ≠ []) : rb = bstL (nwN left) all := by
  rcases h with ⟨rfl, _, _⟩ | ⟨_, hb, _⟩
  · exact absurd (List.eq_nil_of_length_eq_zero (by omega)) h0
  · rwa [List.take_of_length_le hk] at hb

set_option maxRecDepth 100000 in
set_option maxHeartbeats 4000000 in
theorem i_bestRun {N : Nat} {all left : List (List Int)} {aa a : Option Addr} {ca c la ha' lo hi Bq : Nat} {w : World} (hall : RII w la ha' aa all) (hB1 : ha' ≤ w.heap.size) (hx : OIX w lo hi Bq a c left) (hB2 : hi ≤ w.heap.size) (hlo : lo ≤ hi) (hN5 : N ≤ 5)
    (hrows : ∀ r ∈ all, r.length = N ∧ okE ((N : Int) - 1) r = true) (hleft : ∀ l ∈ left, okE ((N : Int) - 1) l = true) (hal : all.length ≤ 3125) (hll : left.length ≤ 3125) (h0 : all ≠ []) :
    Calls Try.prog 60 #[.slice aa all.length ca, .slice a left.length c] w (fun e w' => ∃ ab cb, e = .returned (.slice ab (bstL (nwN left) all).length cb) ∧ RI w la ha' ab (bstL (nwN left) all) ∧ Below w.heap.size w w') := by
  have HROW := Lib.hid hrows
  have HLE := Lib.hid hleft
  have HNE := Lib.hid h0
  have HL5 : Hid (∀ l ∈ left, l.length ≤ 5 ∧ ∀ x ∈ l, 0 ≤ x ∧ x < 5) := fun l hl => by
    have h := hleft l hl
    have h1 := okE_len h
    exact ⟨by omega, fun x hx => by have := okE_mem h hx; omega⟩
  obtain ⟨M, hM⟩ : ∃ M, all.length = M := ⟨_, rfl⟩
  have HM := Lib.hid hM
  obtain ⟨D, hD⟩ : ∃ D, left.length = D := ⟨_, rfl⟩
  have HD := Lib.hid hD
  have hw1 : IntKind.i64.wrap ((D : Int) + 1) = ((D + 1 : Nat) : Int) := by rw [IntWalk.i64_in _ (by omega)]; omega
  rw [hM] at hal ⊢
  rw [hD] at hll ⊢
  clear hrows hleft h0 hM hD
  go_enter Try.func60, Try.ntmps60
  go_wp2
  clear hw1
  go_loopw [5, 6, 15] (fun v s i wr => ∃ (k : Nat) (ab : Option Addr) (cb : Nat) (rb : List Int) (lst : Nat), k ≤ M ∧ i = .int .i64 k ∧ v = .slice ab rb.length cb ∧ s = .int .i64 (lst : Int) ∧ RI w la ha' ab rb ∧ Hid (BrI left all k rb lst) ∧ lst ≤ 3126 ∧ Below w.heap.size w wr) (fun _ _ i _ => M - (intOf i).toNat)
  case atStart => exact ⟨0, none, 0, [], D + 1, Nat.zero_le _, rfl, rfl, rfl, RI.nil _ _ _ _, .inl ⟨rfl, rfl, by rw [HD.out]⟩, by omega, Below.refl _ _⟩
  case round =>
    obtain ⟨k, ab, cb, rb, lst, hk, rfl, rfl, rfl, hrb, hI, hls, hd⟩ := hrel
    have hz := hd.size
    by_cases hlt : k < M
    · obtain ⟨b, o, a1, c1, r, ha, _, hbh, hcell0, hr0, hx1⟩ := hall.at (show k < all.length by have := HM.out; omega)
      have hcell := (hd.cell (p := ⟨b, o + k, none⟩) (show b < w.heap.size by omega)).trans hcell0
      have hidx := idxII ha hlt ca
      have hr := hr0.below hd hB1
      have hrw := HROW.out r (List.mem_of_getElem? hx1.out)
      have HRE := Lib.hid hrw.2
      have HRL := Lib.hid hrw.1
      have HRLI : Hid ((r.length : Int) = (N : Int)) := by show _ = _; rw [HRL.out]
      have hr5 : r.length ≤ 5 := by omega
      have HX1 := Lib.hid hx1.out
      have HRR := Lib.hid hr0
      have hox := hx.below hd hB2
      clear ha hx1 hrw hcell0 hr0
      go_wp2_with fail
      refine (i_orderOf HRLI.out (by omega) HRE.out hr (by omega)).mono ?_
      rintro e w3 ⟨rfl, b3⟩
      have z3 := b3.size
      have hox3 := hox.below b3 (by omega)
      have HHD := i_hiddenX (n := (N : Int)) (plT_b hr5) (fun l hl => HL5.out l hl) hox3 (by omega) hlo (by have := HD.out; omega)
      rw [hid_asc HRE.out HRL.out (fun l hl => HLE.out l hl), HD.out] at HHD
      have HHD := Lib.hid HHD
      have hnl := hid_nw left r
      have hHl : (hidA r left).length ≤ D := by have := HD.out; omega
      clear hnl hox
      by_cases hlt2 : (hidA r left).length < lst
      · have HI2 := Lib.hid (hI.out.yes HX1.out hlt2)
        obtain ⟨q, hq⟩ : ∃ q, (hidA r left).length = q := ⟨_, rfl⟩
        rw [hq] at HHD HI2 hlt2 hHl
        clear hq
        go_wp2_with fail
        refine HHD.out.mono ?_
        rintro e w4 ⟨a4, c4, rfl, _, b4⟩
        have hd4 := hd.trans ((b3.trans (b4.mono z3)).mono hz)
        clear b3 b4 hd hox3 hr hcell
        go_wp2
        go_roundw
        case rel => exact ⟨k + 1, a1, c1, r, q, by omega, by go_num, rfl, rfl, HRR.out, HI2.out, by omega, hd4⟩
        case measure => simp [intOf]; omega
      · have HI2 := Lib.hid (hI.out.no HX1.out hlt2)
        obtain ⟨q, hq⟩ : ∃ q, (hidA r left).length = q := ⟨_, rfl⟩
        rw [hq] at HHD hlt2 hHl
        clear hq
        go_wp2_with fail
        refine HHD.out.mono ?_
        rintro e w4 ⟨a4, c4, rfl, _, b4⟩
        have hd4 := hd.trans ((b3.trans (b4.mono z3)).mono hz)
        clear b3 b4 hd hox3 hr hcell
        go_wp2
        go_roundw
        case rel => exact ⟨k + 1, ab, cb, rb, lst, by omega, by go_num, rfl, rfl, hrb, HI2.out, by omega, hd4⟩
        case measure => simp [intOf]; omega
    · have HE := Lib.hid (hI.out.done (by have := HM.out; omega) HNE.out)
      go_wp2
      go_ret
      rw [← HE.out]
      exact ⟨ab, cb, rfl, hrb, hd⟩

end Go.Proofs.Ytkboggohkhjciaa
