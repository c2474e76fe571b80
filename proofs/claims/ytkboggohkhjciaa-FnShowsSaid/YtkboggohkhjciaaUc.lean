/- Walks: lists of different events, by the program. -/
import Derived.Test.YtkboggohkhjciaaUb
import Derived.Test.YtkboggohkhjciaaYl
namespace Go.Proofs.Ytkboggohkhjciaa
open Go Go.RowKit

def ixV (l : List Int) (x : Int) : Int := if x ∈ l then (l.idxOf x : Int) else -1
theorem idxOf_mid : ∀ {A B : List Int} {x : Int}, x ∉ A → (A ++ x :: B).idxOf x = A.length
  | [], B, x, _ => by simp
  | y :: A, B, x, h => by
    have hne : y ≠ x := fun e => h (by simp [e])
    have h2 : x ∉ A := fun e => h (by simp [e])
    rw [List.cons_append, List.idxOf_cons, idxOf_mid h2]
    have : (y == x) = false := beq_eq_false_iff_ne.2 hne
    rw [this]; simp
theorem ixV_yes {l : List Int} {x : Int} {k : Nat} (hx : l[k]? = some x) (hn : x ∉ l.take k) : ixV l x = k := by
  have hk := lt_of_at hx
  unfold ixV
  rw [if_pos (List.mem_of_getElem? hx)]
  have h := idxOf_mid (A := l.take k) (B := l.drop (k + 1)) hn
  rw [← drop_at' hx, List.take_append_drop, List.length_take] at h
  omega
theorem ixV_no {l : List Int} {x : Int} (hn : x ∉ l) : ixV l x = -1 := by unfold ixV; rw [if_neg hn]
theorem ixV_has (l : List Int) (x : Int) : decide (0 ≤ ixV l x) = l.contains x := by
  unfold ixV
  by_cases h : x ∈ l
  · rw [if_pos h]; simp [h]
  · rw [if_neg h]; simp [h]

set_option maxRecDepth 100000 in
set_option maxHeartbeats 1000000 in
theorem x_IndexS {l : List Int} {x : Int} {a : Option Addr} {c lo hi : Nat} {w : World} (hm : RI w lo hi a l) (hl : l.length ≤ 9223372036854775807) :
    Calls Try.prog 70 #[.slice a l.length c, .int .i64 x] w (RO w (.int .i64 (ixV l x))) := by
  go_enter Try.func70, Try.ntmps70
  go_wp2
  go_loopw [8] (fun i wr => ∃ k : Nat, k ≤ l.length ∧ i = .int .i64 k ∧ Dr w wr ∧ Hid (x ∉ l.take k)) (fun i _ => l.length - (intOf i).toNat)
  case atStart => exact ⟨0, Nat.zero_le _, rfl, Dr.refl _, by simp [Hid]⟩
  case round =>
    obtain ⟨k, hk, rfl, hd, hN⟩ := hrel
    by_cases hlt : k < l.length
    · obtain ⟨b, o, y, ha, _, _, hcell, hy⟩ := (hm.dr hd).at hlt
      have hidx := idxI ha hlt c
      have HY := Lib.hid hy.out
      clear ha hy hm
      by_cases hxy : x = y
      · have heq : (x == y) = true := by rw [hxy]; exact beq_self_eq_true _
        have HV : Hid (ixV l x = k) := ixV_yes (by rw [HY.out, hxy]) hN.out
        clear hxy
        go_wp2
        go_ret
        exact hd.intD HV.out.symm
      · have heq : (x == y) = false := beq_eq_false_iff_ne.2 hxy
        have HN2 : Hid (x ∉ l.take (k + 1)) := by
          show _; rw [take_snoc HY.out, List.mem_append, List.mem_singleton]
          rintro (h | h)
          · exact hN.out h
          · exact hxy h
        clear hxy
        go_wp2
        go_roundw
        case rel => exact ⟨k + 1, by omega, by go_num, hd, HN2⟩
        case measure => simp [intOf]; omega
    · have HV : Hid (ixV l x = -1) := ixV_no (by have := hN.out; rwa [List.take_of_length_le (by omega)] at this)
      go_wp2
      go_ret
      exact hd.intD HV.out.symm

theorem x_Contains {l : List Int} {x : Int} {a : Option Addr} {c lo hi : Nat} {w : World} (hm : RI w lo hi a l) (hl : l.length ≤ 9223372036854775807) :
    Calls Try.prog 71 #[.slice a l.length c, .int .i64 x] w (RO w (.bool (l.contains x))) := by
  go_enter Try.func71, Try.ntmps71
  go_wp2_with fail
  refine (x_IndexS hm hl).mono ?_
  rintro e w1 ⟨rfl, d1⟩
  have d1 : Dr w w1 := d1
  go_wp2
  go_ret
  exact d1.boolD (ixV_has l x)

/-- slices of numbers that lie somewhere, none of them nil -/
def RSS (w : World) (lo hi : Nat) (a : Option Addr) (ls : List (List Int)) : Prop :=
  ∀ k r, ls[k]? = some r → ∃ b o ad c', a = some ⟨b, o, none⟩ ∧ lo ≤ b ∧ b < hi ∧ w.cell? ⟨b, o + k, none⟩ = some (.slice (some ad) r.length c') ∧ RI w lo hi (some ad) r
theorem RSS.below {w w' : World} {lo hi B : Nat} {a : Option Addr} {ls : List (List Int)} (h : RSS w lo hi a ls) (hb : Below B w w') (hB : hi ≤ B) : RSS w' lo hi a ls := fun k r hr => by
  obtain ⟨b, o, ad, c', h1, h2, h3, h4, h5⟩ := h k r hr
  exact ⟨b, o, ad, c', h1, h2, h3, (hb.cell (p := ⟨b, o + k, none⟩) (by show b < B; omega)).trans h4, h5.below hb hB⟩
theorem RSS.of {w : World} {lo hi : Nat} {a : Option Addr} {ls : List (List Int)} (h : RII w lo hi a ls) (hr : ∀ r ∈ ls, r ≠ []) : RSS w lo hi a ls := fun k r hk => by
  obtain ⟨b, o, a', c', r', h1, h2, h3, h4, h5, h6⟩ := h.at (lt_of_at hk)
  have e : r' = r := by have := h6.out; rw [hk] at this; simpa using this.symm
  subst e
  have hne := hr r' (List.mem_of_getElem? hk)
  have hl : 0 < r'.length := by cases r' with | nil => exact absurd rfl hne | cons _ _ => simp
  obtain ⟨b2, o2, _, ha, _⟩ := h5.at hl
  subst ha
  exact ⟨b, o, _, c', h1, h2, h3, h4, h5⟩

/-- a list with the events below x that it misses behind it -/
def lnK (l : List Int) (x : Nat) : List (List Int) := ((List.range x).filter fun (e : Nat) => !l.contains (e : Int)).map fun (e : Nat) => l ++ [(e : Int)]
theorem lnK_all (n : Nat) (l : List Int) : lnK l n = lnE n l := rfl
theorem lnK_yes {l : List Int} {x : Nat} (h : l.contains (x : Int) = false) : lnK l (x + 1) = lnK l x ++ [l ++ [(x : Int)]] := by
  have h' : (x : Int) ∉ l := by simpa using h
  simp [lnK, List.range_succ, List.filter_append, h']
theorem lnK_no {l : List Int} {x : Nat} (h : l.contains (x : Int) = true) : lnK l (x + 1) = lnK l x := by
  have h' : (x : Int) ∈ l := by simpa using h
  simp [lnK, List.range_succ, List.filter_append, h']
theorem lnK_len (l : List Int) (x : Nat) : (lnK l x).length ≤ x := by
  unfold lnK; rw [List.length_map]; exact Nat.le_trans (List.length_filter_le _ _) (by simp)
theorem lnS_snoc {n : Nat} {ls : List (List Int)} {k : Nat} {r : List Int} (h : ls[k]? = some r) : lnS n (ls.take k) ++ lnE n r = lnS n (ls.take (k + 1)) := by
  rw [take_snoc h]; simp [lnS]

theorem OII.one5 {w : World} {lo hi t c n : Nat} {a : Option Addr} {r : List Int} (hn : r.length = n) (h : OIc w lo hi a c r) (hl : lo ≤ w.heap.size) (hh : hi ≤ w.heap.size) :
    OII (w.alloc (.cells #[.slice a n c] t)) lo (w.alloc (.cells #[.slice a n c] t)).heap.size (some ⟨w.heap.size, 0, none⟩) [r] := by
  subst hn
  have h1 := OII.one (t := t) (c := c) h hl hh
  simpa using h1

theorem Fam.of5 {w : World} {lo hi : Nat} {ad : Addr} {mm : List (List Int)} (h : OII w lo hi (some ad) mm) :
    ∃ (A : Nat → Option Addr) (C G : Nat → Nat), Fam w lo hi A G mm ∧ ∀ k r, mm[k]? = some r → w.cell? (ad.add k) = some (.slice (A k) r.length (C k)) ∧ r.length ≤ C k := by
  rcases h with rfl | ⟨b, o, A, C, G, ha, h⟩
  · exact ⟨fun _ => none, fun _ => 0, fun _ => 0, Fam.nil _ _ _ _ _, by simp⟩
  · cases ha
    refine ⟨A, C, G, h.fam, fun k r e => ?_⟩
    have e6 : (⟨b, o, none⟩ : Addr).add k = ⟨b, o + k, none⟩ := by unfold Addr.add; split <;> simp_all
    rw [e6]; exact ⟨h.cell k r e, h.cap k r e⟩

/-- A call that makes a slice of slices of its own, which may be nil. -/
def NewOL (w : World) (mm : List (List Int)) (e : Ending) (w' : World) : Prop := ∃ v, e = .returned v ∧ OwnLL w' w.heap.size v mm ∧ Below w.heap.size w w'
theorem OwnLL.nilv (w : World) (B : Nat) : OwnLL w B (.slice none 0 0) [] := ⟨[], fun _ => none, fun _ => 0, fun _ => 0, World.ownsRow_nil _ _ _ _, by simp, Fam.nil _ _ _ _ _, by simp⟩

set_option maxRecDepth 100000 in
set_option maxHeartbeats 4000000 in
theorem i_longer {n : Nat} {ls : List (List Int)} {a : Option Addr} {c lo hi : Nat} {w : World} (hn : n ≤ 5) (hs : RSS w lo hi a ls) (hB : hi ≤ w.heap.size) (hl : ls.length ≤ 3125) (hr : ∀ r ∈ ls, r.length ≤ 5) :
    Calls Try.prog 66 #[.int .i64 (n : Int), .slice a ls.length c] w (NewOL w (lnS n ls)) := by
  have HR := Lib.hid hr; clear hr
  obtain ⟨M, hM⟩ : ∃ M, ls.length = M := ⟨_, rfl⟩
  have HM := Lib.hid hM
  rw [hM] at hl ⊢
  clear hM
  go_enter Try.func66, Try.ntmps66
  go_wp2
  go_loopw [5, 11] (fun v i wr => ∃ k : Nat, k ≤ M ∧ i = .int .i64 k ∧ OwnLL wr w.heap.size v (lnS n (ls.take k)) ∧ Below w.heap.size w wr) (fun _ i _ => M - (intOf i).toNat)
  case atStart => exact ⟨0, Nat.zero_le _, rfl, OwnLL.nilv _ _, Below.refl _ _⟩
  case round =>
    obtain ⟨k, hk, rfl, hown, hd⟩ := hrel
    have hz := hd.size
    by_cases hlt : k < M
    · obtain ⟨r, hx⟩ := at_of_lt (show k < ls.length by have := HM.out; omega)
      obtain ⟨b, o, ad, c', ha, _, hbh, hcell0, hrr⟩ := hs k r hx
      have hcell := (hd.cell (p := ⟨b, o + k, none⟩) (by show b < _; omega)).trans hcell0
      have hidx := idxII ha hlt c
      have hrl := HR.out r (List.mem_of_getElem? hx)
      have HX := Lib.hid hx
      have HLN := Lib.hid (lnS_len n (ls.take k))
      have hkl : (ls.take k).length ≤ k := by simp; omega
      have hpl : (lnS n (ls.take k)).length ≤ 15625 := by have h1 := HLN.out; have h2 := Nat.mul_le_mul hkl hn; omega
      have HSN := Lib.hid (lnS_snoc (n := n) hx)
      obtain ⟨P, hP⟩ : ∃ P, lnS n (ls.take k) = P := ⟨_, rfl⟩
      rw [hP] at hown hpl HSN
      obtain ⟨wo, rfl⟩ : ∃ x : World, x = wr := ⟨_, rfl⟩
      have hst := hown
      rw [show P = P ++ lnK r 0 by rw [show lnK r 0 = [] from rfl, List.append_nil]] at hst
      clear ha hx hs hP hown HLN hcell0
      go_wp2
      clear hcell
      go_loopw [5, 16] (fun v i wr => ∃ q : Nat, q ≤ n ∧ i = .int .i64 q ∧ OwnLL wr w.heap.size v (P ++ lnK r q) ∧ Below w.heap.size w wr) (fun _ i _ => n - (intOf i).toNat)
      case atStart => exact ⟨0, Nat.zero_le _, rfl, hst, hd⟩
      case round =>
        clear hst hd
        obtain ⟨q, hq, rfl, hown, hd⟩ := hrel
        have hz0 := hd.size
        have hr2 := hrr.below hd hB
        by_cases hql : q < n
        · have hkl2 := lnK_len r q
          have hpl2 : (P ++ lnK r q).length ≤ 1099511627776 := by rw [List.length_append]; omega
          cases hc : r.contains (q : Int)
          · have HC := Lib.hid hc
            have HK := Lib.hid (lnK_yes hc)
            clear hc
            go_wp2_with fail
            refine (x_Contains hr2 (by omega)).mono ?_
            rintro e w2 ⟨rfl, d2⟩
            rw [HC.out]
            have d2 : Dr wr w2 := d2
            have hz2 := Dr.le d2
            have hr3 := hr2.dr d2
            have hown2 := hown.below (Dr.below d2 _)
            have hd2 := hd.trans (Dr.below d2 _)
            have hn1 := heap_alloc_new w2 (.cells #[.int .i64 (q : Int)] 3)
            have hn2 := heap_alloc_new (w2.alloc (.cells #[.int .i64 (q : Int)] 3)) (.cells #[.slice (some ad) r.length c', .slice (some ⟨w2.heap.size, 0, none⟩) 1 1] 29)
            have hn1' := (Below.heap_alloc (w2.alloc (.cells #[.int .i64 (q : Int)] 3)) (.cells #[.slice (some ad) r.length c', .slice (some ⟨w2.heap.size, 0, none⟩) 1 1] 29) w2.heap.size (by simp)).trans hn1
            have hb3 := ((Below.refl w2.heap.size w2).alloc (Nat.le_refl _) (.cells #[.int .i64 (q : Int)] 3)).alloc (by simp) (.cells #[.slice (some ad) r.length c', .slice (some ⟨w2.heap.size, 0, none⟩) 1 1] 29)
            simp only [World.size_alloc] at hn2
            obtain ⟨W, hW⟩ : ∃ W, (w2.alloc (.cells #[.int .i64 (q : Int)] 3)).alloc (.cells #[.slice (some ad) r.length c', .slice (some ⟨w2.heap.size, 0, none⟩) 1 1] 29) = W := ⟨_, rfl⟩
            have hWs : w2.heap.size + 2 ≤ W.heap.size ∧ W.heap.size ≤ w2.heap.size + 2 := by rw [← hW]; simp
            rw [hW] at hn2 hn1' hb3
            have e1 : W.cell? ⟨w2.heap.size + 1, 0, none⟩ = some (.slice (some ad) r.length c') := by rw [cell_of_row _ _ 0 _ _ _ hn2]; rfl
            have e2 : W.cell? ⟨w2.heap.size + 1, 1, none⟩ = some (.slice (some ⟨w2.heap.size, 0, none⟩) 1 1) := by rw [cell_of_row _ _ 1 _ _ _ hn2]; rfl
            have f1 : RI W 0 W.heap.size (some ad) r := (hr3.below hb3 (by omega)).wide (Nat.zero_le _) (by omega)
            have f2 : RI W 0 W.heap.size (some ⟨w2.heap.size, 0, none⟩) [(q : Int)] := fun j hj => by
              have hj0 : j = 0 := by simp at hj; omega
              subst hj0
              exact ⟨w2.heap.size, 0, rfl, Nat.zero_le _, by omega, (q : Int), rfl, by rw [cell_of_row _ _ _ _ _ _ hn1']; rfl⟩
            have hcat := x_ConcatI (w := W) e1 e2 (by omega) rfl rfl f1 f2 (Nat.le_refl _) (by omega) (by omega)
            obtain ⟨l, hl⟩ : ∃ l, r ++ [(q : Int)] = l := ⟨_, rfl⟩
            rw [hl] at hcat HK
            have HCAT := Lib.hid hcat
            clear hcat hl hn1 hn2 hn1' e1 e2 f1 f2 hr3 hr2 hown d2
            go_wp2_with fail
            try rw [hW]
            refine HCAT.out.mono ?_
            rintro e w4 ⟨a4, c4, rfl, ho4, hb4⟩
            have hs4 := hb4.size
            have hb24 : Below w2.heap.size w2 w4 := hb3.trans (hb4.mono (by omega))
            have hO := OII.one5 (t := 29) (c := c4) rfl ho4 hs4 (Nat.le_refl _)
            have hb5 := hb24.alloc (by omega) (.cells #[.slice a4 l.length c4] 29)
            obtain ⟨A3, C3, G3, hf3, hc3⟩ := Fam.of5 (hO.wide (show w2.heap.size ≤ W.heap.size by omega) (Nat.le_refl _))
            clear hO hb4 ho4 hb24 hW
            go_wp2_with (first
              | (at_builtin; refine wpList_appLL (W0 := w2) rfl _ _ rfl w.heap.size _ (P ++ lnK r q) [l] rfl hown2 hb5 (by omega) ⟨w4.heap.size, 0, none⟩ 1 1 rfl rfl A3 C3 G3 hf3 hc3 hpl2 (by simp) ?_; intro v6 w6 hown6 hb6 hnn6)
              | go_in)
            rw [List.append_assoc, ← HK.out] at hown6
            have hd6 := (hd2.trans (hb5.mono (by omega))).trans hb6
            clear hown2 hb5 hb6 hf3 hc3 hnn6
            go_roundw
            case rel => exact ⟨q + 1, by omega, by go_num, hown6, hd6⟩
            case measure => simp [intOf]; omega
          · have HC := Lib.hid hc
            have HK := Lib.hid (lnK_no hc)
            clear hc
            go_wp2_with fail
            refine (x_Contains hr2 (by omega)).mono ?_
            rintro e w2 ⟨rfl, d2⟩
            rw [HC.out]
            have d2 : Dr wr w2 := d2
            have hown2 := hown.below (Dr.below d2 _)
            have hd2 := hd.trans (Dr.below d2 _)
            rw [← HK.out] at hown2
            go_wp2
            go_roundw
            case rel => exact ⟨q + 1, by omega, by go_num, hown2, hd2⟩
            case measure => simp [intOf]; omega
        · have hqn : q = n := by omega
          have HO : Hid (P ++ lnK r q = lnS n (ls.take (k + 1))) := by show _ = _; rw [hqn, lnK_all, HSN.out]
          rw [HO.out] at hown
          clear hqn
          go_wp2
          go_roundw
          case rel => exact ⟨k + 1, by omega, by go_num, hown, hd⟩
          case measure => simp [intOf]; omega
    · have HKE : Hid (ls.take k = ls) := List.take_of_length_le (by have := HM.out; omega)
      rw [HKE.out] at hown
      go_wp2
      go_ret
      exact ⟨_, rfl, hown, hd⟩

end Go.Proofs.Ytkboggohkhjciaa
