/- Walks: patterns of the program as lists. -/
import Derived.Test.YtehoagbpgahopaaWu
import Derived.Test.YtehoagbpgahopaaWm
import Derived.Test.YtehoagbpgahopaaWi
namespace Go.Proofs.Ytehoagbpgahopaa
open Go.RowKit

def NewP (w : World) (ps : List (List Int)) (e : Ending) (w' : World) : Prop := ∃ v, e = .returned v ∧ OwnP w' w.heap.size v ps ∧ Below w.heap.size w w'

set_option maxRecDepth 100000 in
set_option maxHeartbeats 1000000 in
theorem i_patternsOf {m : List Int} {a : Option Addr} {c lo hi : Nat} {w : World} {t : Int} (hok : okM m = true) (hm : RI w lo hi a m) (hB : hi ≤ w.heap.size) (ht0 : 0 ≤ t) (ht1 : t ≤ m.length) :
    Calls Try.prog 144 #[.slice a m.length c, .int .i64 t] w (NewP w (patS m [] t)) := by
  have HC : Hid (Calls Try.prog 225 #[.slice none 0 0, .slice a m.length c, .agg #[.int .i64 ((fun _ => 0) 0), .int .i64 ((fun _ => 0) 1), .int .i64 ((fun _ => 0) 2), .int .i64 ((fun _ => 0) 3), .int .i64 ((fun _ => 0) 4)], .int .i64 0, .int .i64 t] w (AddP w w.heap.size (.slice none 0 0) ([] ++ patS m [] t))) :=
    i_addPatterns hok m.length [] a c lo hi w.heap.size w 0 t (.slice none 0 0) [] rfl (by simp) hm hB (Nat.le_refl _) (OwnP.nil _ _) (by have := okM_len hok; simp; omega) ht0 ht1
  go_enter Try.func144, Try.ntmps144
  go_wp2_with fail
  refine HC.out.mono ?_
  rintro e w2 ⟨v2, rfl, ho2, hg2⟩
  have hb : Below w.heap.size w w2 := ⟨hg2.gr.os, hg2.gr.tape, hg2.gr.output, hg2.gr.size, fun k hk => hg2.gr.block k hk (by simp [Value.ownBlock])⟩
  rw [List.nil_append] at ho2
  go_wp2
  go_ret
  exact ⟨v2, rfl, ho2, hb⟩

/- Walks: listsOf. -/
open Go.RowKit

theorem sizePat (w : World) : (sizeOf 97).run Try.prog w = .ok 5 w := by kernel_rfl
theorem cs5_at {ps : List (List Int)} {k j : Nat} {l : List Int} (h : ps[k]? = some l) (hj : j < 5) : (ps.flatMap cs5)[k * 5 + j]? = some (.int .i64 (at5 l j)) := by
  induction ps generalizing k with
  | nil => simp at h
  | cons p ps ih =>
    rw [List.flatMap_cons]
    have hc : (cs5 p).length = 5 := rfl
    cases k with
    | zero =>
      simp at h; subst h
      rw [List.getElem?_append_left (by rw [hc]; omega)]
      obtain rfl | rfl | rfl | rfl | rfl : j = 0 ∨ j = 1 ∨ j = 2 ∨ j = 3 ∨ j = 4 := by omega
      all_goals rfl
    | succ k =>
      simp only [List.getElem?_cons_succ] at h
      rw [List.getElem?_append_right (by rw [hc]; omega), hc]
      have e : (k + 1) * 5 + j - 5 = k * 5 + j := by omega
      rw [e]; exact ih h
/-- where element k of such a slice lies, and what is there -/
theorem OwnP.at {w : World} {B : Nat} {v : Value} {ps : List (List Int)} (h : OwnP w B v ps) : ∃ a c, v = .slice a ps.length c ∧ ∀ (k : Nat) (l : List Int), ps[k]? = some l → ∃ g, B ≤ g ∧ g < w.heap.size ∧
    (∀ wx, (Instr.indexAt 105 (.slice a ps.length c) (.int .i64 (k : Int))).run Try.prog wx = .ok (.pointer (some ⟨g, k * 5, none⟩)) wx) ∧ ∀ (j : Nat), j < 5 → w.cell? ⟨g, k * 5 + j, none⟩ = some (.int .i64 (at5 l j)) := by
  have hlt := h.lt
  rcases h.2 with ⟨rfl, h0⟩ | ⟨g, cap, cur, rfl, hb, hg, hn, hm, hs, ht⟩
  · have e : ps = [] := List.eq_nil_of_length_eq_zero h0
    subst e
    exact ⟨none, 0, rfl, by simp⟩
  · refine ⟨_, _, rfl, fun k l e => ⟨g, hb, (hlt g rfl).2, fun wx => ?_, fun j hj => ?_⟩⟩
    · have hk := lt_of_at e
      have h1 := sizePat wx
      simp [Instr.indexAt, run_underlying undPs, asIntOf, hk, Addr.add]
      try omega
    · rw [cell_of_row w g _ cur _ (0, 0) hg]
      have e2 := cs5_at e hj
      rw [← ht, List.getElem?_take] at e2
      split at e2
      · simpa using e2
      · cases e2

theorem x_CloneN {l : List Int} {n : Nat} {a : Option Addr} {c lo hi : Nat} {w : World} (hn : l.length = n) (hm : RI w lo hi a l) (hB : hi ≤ w.heap.size) (h0 : l ≠ []) (hl : n ≤ 1048576) :
    Calls Try.prog 137 #[.slice a n c] w (fun e w' => ∃ a' c', e = .returned (.slice a' n c') ∧ OIc w' w.heap.size w'.heap.size a' c' l ∧ Below w.heap.size w w') := by
  subst hn
  exact x_CloneI hm hB h0 hl
theorem ri_box {w : World} {b t : Nat} {l : List Int} (h : w.heap[b]? = some (.cells #[.int .i64 (at5 l 0), .int .i64 (at5 l 1), .int .i64 (at5 l 2), .int .i64 (at5 l 3), .int .i64 (at5 l 4)] t (0, 0))) (hl : l.length ≤ 5) : RI w b (b + 1) (some ⟨b, 0, none⟩) l := by
  intro k hk
  obtain ⟨x, hx⟩ := at_of_lt hk
  refine ⟨b, 0, rfl, Nat.le_refl _, Nat.lt_succ_self _, x, hx, ?_⟩
  rw [Nat.zero_add, cell5 h (by omega), at5_of hx]

theorem slice5 (b n : Nat) (hn : n ≤ 5) (wx : World) : (Instr.sliceAt 97 (.pointer (some ⟨b, 0, none⟩)) none (some (.int .i64 (n : Int))) none).run Try.prog wx = .ok (.slice (some ⟨b, 0, none⟩) n 5) wx := by
  obtain rfl | rfl | rfl | rfl | rfl | rfl : n = 0 ∨ n = 1 ∨ n = 2 ∨ n = 3 ∨ n = 4 ∨ n = 5 := by omega
  all_goals kernel_rfl
theorem OII.oneN {w : World} {lo hi t c n : Nat} {a : Option Addr} {r : List Int} (hn : r.length = n) (h : OIc w lo hi a c r) (hl : lo ≤ w.heap.size) (hh : hi ≤ w.heap.size) :
    OII (w.alloc (.cells #[.slice a n c] t)) lo (w.alloc (.cells #[.slice a n c] t)).heap.size (some ⟨w.heap.size, 0, none⟩) [r] := by
  subst hn
  have h1 := OII.one (t := t) (c := c) h hl hh
  simpa using h1

set_option maxRecDepth 100000 in
set_option maxHeartbeats 2000000 in
theorem i_listsOf {ps : List (List Int)} {v : Value} {B n : Nat} {w : World} (ho : OwnP w B v ps) (hn : 1 ≤ n) (hn5 : n ≤ 5) (hl : ps.length ≤ 1048576) (hr : ∀ l ∈ ps, l.length = n) :
    Calls Try.prog 140 #[v, .int .i64 n] w (NewII w ps) := by
  obtain ⟨a, c, rfl, hat⟩ := ho.at
  have HAT := Lib.hid hat
  have HR := Lib.hid hr
  obtain ⟨N, hN⟩ : ∃ N, ps.length = N := ⟨_, rfl⟩
  have HNN := Lib.hid hN
  have hNl : N ≤ 1048576 := by omega
  have hst := OwnLL.room w w.heap.size N 23 rfl (Nat.le_refl _) (by unfold maxLen; omega)
  rw [hN]
  clear hat hr ho hN hl
  obtain ⟨inf, hinf, hzz⟩ := Option.map_eq_some_iff.1 infoI
  simp only [Prod.mk.injEq] at hzz
  obtain ⟨hz, hsz, hby⟩ := hzz
  have hmk : ∀ wx : World, (Instr.makeSlice 24 (.int .i64 0) (.int .i64 (N : Int))).run Try.prog wx = .ok (.slice (some ⟨wx.heap.size, 0, none⟩) 0 N) (wx.alloc (.cells (madeCells #[.slice none 0 0] N) 23)) := by
    intro wx
    have h := run_makeSlice (P := Try.prog) (w := wx) 24 23 inf (.slice none 0 0) undII hinf hz .i64 .i64 0 (N : Int) (by omega) (by omega) (by rw [hsz]; omega) (by rw [hby]; omega) (by omega)
    simpa [hsz, Value.cells] using h
  clear hz hsz hby hinf
  go_enter Try.func140, Try.ntmps140
  go_wp2_with fail
  go_loopw [5, 13] (fun v i wr => ∃ k : Nat, k ≤ N ∧ i = .int .i64 k ∧ OwnLL wr w.heap.size v (ps.take k) ∧ Below w.heap.size w wr ∧ w.heap.size < wr.heap.size ∧ Hid (v ≠ .slice none 0 0)) (fun _ i _ => N - (intOf i).toNat)
  case atStart => exact ⟨0, Nat.zero_le _, rfl, hst, (Below.refl _ _).alloc (Nat.le_refl _) _, by simp, by show _ ≠ _; simp⟩
  case round =>
    clear hst hmk
    obtain ⟨k, hk, rfl, hown, hBl, hsz, hnn⟩ := hrel
    by_cases hlt : k < N
    · obtain ⟨l, hx⟩ := at_of_lt (show k < ps.length by have := HNN.out; omega)
      obtain ⟨g, hg1, hg2, hidx, hcs⟩ := HAT.out k l hx
      have HX := Lib.hid hx
      rw [HNN.out] at hidx
      have hc (j : Nat) (hj : j < 5) : wr.cell? ⟨g, k * 5 + j, none⟩ = some (.int .i64 (at5 l j)) := (hBl.cell (p := ⟨g, k * 5 + j, none⟩) hg2).trans (hcs j hj)
      have hc0 := hc 0 (by omega)
      have hc1 := hc 1 (by omega)
      have hc2 := hc 2 (by omega)
      have hc3' := hc 3 (by omega)
      have hc4 := hc 4 (by omega)
      simp only [Nat.add_zero] at hc0
      clear hc hcs hx
      have hln := HR.out l (List.mem_of_getElem? HX.out)
      have hl0 : l ≠ [] := by intro e; subst e; simp at hln; omega
      have hsl := fun b wx => slice5 b n hn5 wx
      go_wp2_with fail
      refine (x_CloneN (l := l) (n := n) hln (ri_box (t := 97) (heap_alloc_new wr _) (by omega)) (by simp) hl0 (by omega)).mono ?_
      rintro e w2 ⟨a2, c2, rfl, hn2, hb2⟩
      have hb02 : Below wr.heap.size wr w2 := ((Below.refl wr.heap.size wr).alloc (Nat.le_refl _) _).trans (hb2.mono (by simp))
      have hs02 := hb02.size
      have hs2 := hb2.size
      have ho2 : OIc w2 wr.heap.size w2.heap.size a2 c2 l := hn2.wide (by simp) (Nat.le_refl _)
      have hO := OII.oneN (t := 23) (c := c2) hln ho2 hs02 (Nat.le_refl _)
      have hb3 : Below wr.heap.size wr (w2.alloc (.cells #[.slice a2 n c2] 23)) := hb02.alloc hs02 _
      obtain ⟨A3, C3, G3, hf3, hc3⟩ := Fam.ofOII hO
      have hkl : (ps.take k).length ≤ 1099511627776 := by simp; omega
      clear hb2 hn2 hb02 ho2 hO hc0 hc1 hc2 hc3' hc4
      go_wp2_with (first
        | (at_builtin; refine wpList_appLL (W0 := wr) rfl (.tmp 17) (.tmp 21) rfl w.heap.size _ (ps.take k) [l] rfl hown hb3 (by omega) ⟨w2.heap.size, 0, none⟩ 1 1 rfl rfl A3 C3 G3 hf3 hc3 hkl (by simp) ?_; intro v4 w4 hown4 hb4 hnn4)
        | go_in)
      have HO : Hid (OwnLL w4 w.heap.size v4 (ps.take (k + 1))) := by show OwnLL _ _ _ _; rw [List.take_add_one, HX.out]; exact hown4
      have hs3 := hb3.size
      have hs4 := hb4.size
      have hBl4 := (hBl.trans (hb3.mono (by omega))).trans hb4
      have hnn4' : Hid (v4 ≠ .slice none 0 0) := hnn4.out hnn.out
      clear hown4 hb4 hb3 hBl hown
      go_roundw
      case rel => exact ⟨k + 1, by omega, by go_num, HO.out, hBl4, by omega, hnn4'⟩
      case measure => simp [intOf]; omega
    · have HK : Hid (k = N) := by show _ = _; omega
      go_wp2
      rw [HK.out, ← HNN.out, List.take_length] at hown
      obtain ⟨ad4, c4, rfl, ho4⟩ := hown.some hnn.out
      go_ret
      exact ⟨some ad4, c4, rfl, ho4, hBl⟩

end Go.Proofs.Ytehoagbpgahopaa
