/- What a walk is told of suites that are drawn. -/
import Derived.Test.YtbdbfbobcdepgaaRe
import Derived.Test.YtbdbfbobcdepgaaYi
import Derived.Lib.AppendZerosOnto
namespace Go.Proofs.Ytbdbfbobcdepgaa
open Go.RowKit

/-- append of one number; what was appended to still reads as it did -/
theorem run_app1k {w : World} (ty : TypeId) (B : Nat) (a : Option Addr) (n c : Nat) (l : List Int) (hown : OwnL w B (.slice a n c) l) (x : Int) (nw : Nat) (hnw : nw = w.heap.size) (hl : l.length ≤ 1099511627776) (hB : B ≤ w.heap.size) :
    ∃ v' w', (Builtin.append_ #[22, 22] ty #[.slice a n c, .slice (some ⟨nw, 0, none⟩) 1 1]).run Try.prog (w.alloc (.cells #[.int .i64 x] 3)) = .ok v' w' ∧ OwnL w' B v' (l ++ [x]) ∧ Below B w w' ∧ RI w' B w.heap.size a l ∧ ∀ g, g < w.heap.size → Value.ownBlock (.slice a n c) ≠ some g → w'.heap[g]? = w.heap[g]? := by
  subst hnw
  have hlt0 := World.ownsRow.lt hown
  obtain ⟨a0, c0, e0, hoi⟩ := hown.slice
  cases e0
  obtain ⟨i0, hi, hz0, hz1, hz2⟩ := info_parts infoInt
  have hownA := World.ownsRow.alloc hown (.cells #[.int .i64 x] 3)
  have hoiA : RI (w.alloc (.cells #[.int .i64 x] 3)) B w.heap.size a l := hoi.ri.same fun k _ h => Below.heap_alloc w _ k h
  obtain ⟨v', w', hr, h1, h2, _, h4⟩ := run_append_own_at (P := Try.prog) (w.alloc (.cells #[.int .i64 x] 3)) B 22 ty 3 i0 (.int .i64 0) 1 8 undI hi hz0 hz1 hz2 rfl (by decide) (.slice a l.length c) l.length (ints l) hownA ⟨w.heap.size, 0, none⟩ 1 1 [.int .i64 x] rfl
    (cell_one_new _ _ _) (fun u hu => by simp at hu; subst hu; rfl) (by unfold maxLen; omega) (by omega) (by simp; omega)
  have ho2 : OwnL w' B v' (l ++ [x]) := by unfold OwnL; rw [ints_snoc, List.length_append]; exact h1
  refine ⟨v', w', hr, ho2, ((Below.refl B w).alloc hB _).grown h2 (by simp; omega) fun k hk => (hlt0 k hk).1, ?_, fun g hg hn => (h2.block g (by simp; omega) fun e => hn e.symm).trans (Below.heap_alloc w _ g hg)⟩
  have hs2 := h2.size
  simp only [World.size_alloc] at hs2
  rcases hown.2 with ⟨hn, h0⟩ | ⟨g, cap, cur, hv, hbg, hg, hnc, hcm, hcs, ht⟩
  · rw [List.eq_nil_of_length_eq_zero h0]; exact RI.nil _ _ _ _
  · cases hv
    have hgl : g < w.heap.size := (Array.getElem?_eq_some_iff.1 hg).1
    have hgA : (w.alloc (.cells #[.int .i64 x] 3)).heap[g]? = some (.cells cur 3 (0, 0)) := by rw [Below.heap_alloc w _ g hgl]; exact hg
    by_cases hroom : l.length + 1 ≤ c
    · have hr2 := run_append_room (P := Try.prog) (w.alloc (.cells #[.int .i64 x] 3)) 22 ty 3 i0 undI hi g l.length c cur hgA ⟨w.heap.size, 0, none⟩ 1 1 [.int .i64 x] (by rw [hz1]; rfl) (cell_one_new _ _ _) (fun u hu => by simp at hu; subst hu; rfl) hroom (by rw [hz1]; simp; omega)
      rw [hr] at hr2
      cases hr2
      obtain ⟨a5, c5, e5, hoi5⟩ := ho2.slice
      injection e5 with e6 e7 e8
      subst e6
      intro k hk
      obtain ⟨b6, o6, h6, h7, h8, y, h9, h10⟩ := hoi5.ri k (by simp; omega)
      have hb6 : b6 = g := by have := congrArg (Option.map Addr.block) h6; simpa using this.symm
      exact ⟨b6, o6, h6, h7, by omega, y, by rw [List.getElem?_append_left hk] at h9; exact h9, h10⟩
    · have holds : ∀ j u, (ints l)[j]? = some u → (w.alloc (.cells #[.int .i64 x] 3)).cell? ((⟨g, 0, none⟩ : Addr).add j) = some u := World.ownsRow.cells hownA (g := g) rfl
      have hr2 := run_append_grow (P := Try.prog) (w.alloc (.cells #[.int .i64 x] 3)) 22 ty 3 i0 (.int .i64 0) undI hi hz0 ⟨g, 0, none⟩ l.length c (ints l) (by rw [ints_len, hz1, Nat.mul_one]) holds ⟨w.heap.size, 0, none⟩ 1 1 [.int .i64 x] (by rw [hz1]; rfl) (cell_one_new _ _ _) (by omega) (by omega) (growslice_fits (by omega) (by rw [hz2]; omega))
      rw [hr] at hr2
      cases hr2
      refine hoiA.same fun k _ h => ?_
      exact Below.heap_alloc (w.alloc (.cells #[.int .i64 x] 3)).drew _ k (by simp; omega)

/-- a row of numbers that lies in a block of which P holds -/
def RIp (w : World) (P : Nat → Prop) (a : Option Addr) (m : List Int) : Prop :=
  ∀ k, k < m.length → ∃ b o, a = some ⟨b, o, none⟩ ∧ P b ∧ ∃ x, m[k]? = some x ∧ w.cell? ⟨b, o + k, none⟩ = some (.int .i64 x)
theorem RIp.same {w w' : World} {P Q : Nat → Prop} {a : Option Addr} {m : List Int} (h : RIp w P a m) (hb : ∀ b, P b → Q b ∧ w'.heap[b]? = w.heap[b]?) : RIp w' Q a m := by
  intro k hk
  obtain ⟨b, o, h1, h2, x, h4, h5⟩ := h k hk
  exact ⟨b, o, h1, (hb b h2).1, x, h4, (World.cell?_of_block (w := w) (hb b h2).2).trans h5⟩
theorem RIp.ofRI {w : World} {P : Nat → Prop} {lo hi : Nat} {a : Option Addr} {m : List Int} (h : RI w lo hi a m) (hP : ∀ b, lo ≤ b → b < hi → P b) : RIp w P a m := by
  intro k hk
  obtain ⟨b, o, h1, h2, h3, x, h4, h5⟩ := h k hk
  exact ⟨b, o, h1, hP b h2 h3, x, h4, h5⟩
theorem RIp.ri {w : World} {P : Nat → Prop} {lo hi : Nat} {a : Option Addr} {m : List Int} (h : RIp w P a m) (hP : ∀ b, P b → lo ≤ b ∧ b < hi) : RI w lo hi a m := by
  intro k hk
  obtain ⟨b, o, h1, h2, x, h4, h5⟩ := h k hk
  exact ⟨b, o, h1, (hP b h2).1, (hP b h2).2, x, h4, h5⟩
/-- v owns, from block B on, a row of slices that read as mm; their numbers lie from block B on, too, none in v's own block -/
def OwnX (w : World) (B : Nat) (v : Value) (mm : List (List Int)) : Prop :=
  ∃ xs : List Value, w.ownsRow B 22 1 v mm.length xs ∧ ∀ (k : Nat) (r : List Int), mm[k]? = some r → ∃ a c, xs[k]? = some (Value.slice a r.length c) ∧ r.length ≤ c ∧ RIp w (fun b => B ≤ b ∧ b < w.heap.size ∧ v.ownBlock ≠ some b) a r
theorem OwnX.lt {w : World} {B : Nat} {v : Value} {mm : List (List Int)} (h : OwnX w B v mm) : ∀ g, v.ownBlock = some g → B ≤ g ∧ g < w.heap.size := by
  obtain ⟨xs, h1, _⟩ := h
  exact World.ownsRow.lt h1
theorem OwnX.made (w : World) (B : Nat) (hB : B ≤ w.heap.size) : OwnX (w.alloc (.cells #[] 22)) B (.slice (some ⟨w.heap.size, 0, none⟩) 0 0) [] := ⟨[], World.ownsRow_made w #[] 0 hB (by simp [maxLen]) rfl, by simp⟩
theorem OwnX.same {w w' : World} {B : Nat} {v : Value} {mm : List (List Int)} (h : OwnX w B v mm) (hs : w.heap.size ≤ w'.heap.size) (hb : ∀ g, B ≤ g → g < w.heap.size → w'.heap[g]? = w.heap[g]?) : OwnX w' B v mm := by
  have hlt := h.lt
  obtain ⟨xs, ⟨h1, h2⟩, h3⟩ := h
  refine ⟨xs, ⟨h1, ?_⟩, fun k r e => ?_⟩
  · rcases h2 with h2 | ⟨g, cap, cur, rfl, hB, hg, rest⟩
    · exact .inl h2
    · exact .inr ⟨g, cap, cur, rfl, hB, by rw [hb g (hlt g rfl).1 (hlt g rfl).2]; exact hg, rest⟩
  · obtain ⟨a, c, e1, e2, e3⟩ := h3 k r e
    exact ⟨a, c, e1, e2, e3.same fun b hb' => ⟨⟨hb'.1, by omega, hb'.2.2⟩, hb b hb'.1 hb'.2.1⟩⟩
theorem OwnX.below {w w' : World} {B : Nat} {v : Value} {mm : List (List Int)} (h : OwnX w B v mm) (hb : Below w.heap.size w w') : OwnX w' B v mm := h.same hb.size fun g _ h2 => hb.block g h2
theorem OwnX.upd {w w' : World} {b B : Nat} {v : Value} {mm : List (List Int)} (h : OwnX w B v mm) (hu : Upd b (b + 1) w w') (hb : b < B) : OwnX w' B v mm := h.same hu.size fun g h1 h2 => hu.block g h2 (by omega)
theorem OwnX.upB {w w' : World} {b B : Nat} {v : Value} {mm : List (List Int)} (h : OwnX w B v mm) (hu : UpB b w.heap.size w w') (hb : b < B) : OwnX w' B v mm := h.same hu.size fun g h1 h2 => hu.block g h2 h2 (by omega)
theorem OwnX.riic {w : World} {B : Nat} {v : Value} {mm : List (List Int)} (h : OwnX w B v mm) : ∃ a c, v = .slice a mm.length c ∧ RIIc w B w.heap.size a c mm := by
  have hlt := h.lt
  obtain ⟨xs, h1, h2⟩ := h
  rcases h1.2 with ⟨rfl, h0⟩ | ⟨g, cap, cur, rfl, hb, hg, hn, hm, hx, ht⟩
  · have e : mm = [] := List.eq_nil_of_length_eq_zero h0
    subst e
    exact ⟨none, 0, rfl, RIIc.nil _ _ _ _ _⟩
  · refine ⟨_, _, rfl, fun k hk => ?_, hn⟩
    obtain ⟨r, hr⟩ := at_of_lt hk
    obtain ⟨a, c, e1, e2, e3⟩ := h2 k r hr
    refine ⟨g, 0, a, c, r, rfl, hb, (hlt g rfl).2, hr, ?_, e3.ri fun b h => ⟨h.1, h.2.1⟩, e2⟩
    rw [Nat.zero_add, cell_of_row w g k cur _ (0, 0) hg]
    rw [← ht, List.getElem?_take] at e1
    split at e1
    · simpa using e1
    · cases e1
theorem OwnX.ofLL {w : World} {B : Nat} {v : Value} {mm : List (List Int)} (h : OwnLL w B v mm) : OwnX w B v mm := by
  obtain ⟨xs, A, C, G, h1, h2, h3, h4⟩ := h
  refine ⟨xs, h1, fun k r e => ⟨A k, C k, (h2 k r e).1, (h2 k r e).2, ?_⟩⟩
  by_cases hr : r = []
  · subst hr; intro j hj; simp at hj
  · have hlo := h3.rlo k r e hr
    exact RIp.ofRI (h3.row k r e).ri fun b hb1 hb2 => by
      obtain rfl : b = G k := by omega
      exact ⟨hlo.1, hlo.2, fun hg => h4 _ hg k r e hr rfl⟩
theorem OwnX.ofRR {w : World} {B lo hi : Nat} {v : Value} {mm : List (List Int)} (h : OwnRR w B lo hi v mm) (hl : B ≤ lo) (hh : hi ≤ w.heap.size) : OwnX w B v mm := by
  obtain ⟨xs, h1, h2, h3⟩ := h
  refine ⟨xs, h1, fun k r e => ?_⟩
  obtain ⟨a, c, e1, e2, e3⟩ := h2 k r e
  exact ⟨a, c, e1, e3, RIp.ofRI e2 fun b hb1 hb2 => ⟨by omega, by omega, fun hg => by have := h3 b hg; omega⟩⟩

/-- append of one row, out of a box -/
theorem wpList_appX {wr : World} {ops : Array Oper} {rest : List Oper} {o : Oper} {a : Act} {Q : Exit → Act → World → Prop} (hgd : o.guard = none) (s t : Operand)
    (ho : o.op = .call { callee := .builtin .append, args := #[s, t], argTypes := #[23, 23] }) (B lo hi : Nat) (v : Value) (mm : List (List Int)) (hs : a.eval s = v) (hown : OwnX wr B v mm) (hB : B ≤ wr.heap.size)
    (r : List Int) (a' : Option Addr) (n c' : Nat) (hn : n = r.length) (hr : RI wr lo hi a' r) (hcap : r.length ≤ c') (hlo : B ≤ lo) (hhi : hi ≤ wr.heap.size) (hoff : ∀ g, v.ownBlock = some g → g < lo) (nw : Nat) (hx : a.eval t = .slice (some ⟨nw, 0, none⟩) 1 1) (hnw : nw = wr.heap.size) (hl : mm.length ≤ 1099511627776)
    (h : ∀ v' w', OwnX w' B v' (mm ++ [r]) → Below B wr w' → Hid (v'.ownBlock = v.ownBlock ∨ v'.ownBlock = some (wr.heap.size + 1)) → wpList Try.prog ops Q rest (a.put o.dst v') w') : wpList Try.prog ops Q (o :: rest) a (wr.alloc (.cells #[.slice a' n c'] 22)) := by
  subst hnw hn
  have hlt0 := hown.lt
  obtain ⟨xs, h1, h2⟩ := hown
  have hxl : xs.length = mm.length := by have := h1.1; omega
  obtain ⟨i0, hi0, hz0, hz1, hz2⟩ := info_parts infoI
  have hbA := (Below.refl wr.heap.size wr).alloc (Nat.le_refl _) (.cells #[.slice a' r.length c'] 22)
  refine wpList_append_own_at _ hgd s t 23 ho B 22 i0 (.slice none 0 0) 1 24 undII hi0 hz0 hz1 hz2 rfl (by decide) v mm.length xs hs (World.ownsRow.alloc h1 _) ⟨wr.heap.size, 0, none⟩ 1 1 [.slice a' r.length c'] hx rfl (cell_one_new _ _ _) ?_ ?_ ?_ ?_ ?_
  · intro u hu; simp at hu; subst hu; rfl
  · unfold maxLen; omega
  · omega
  · simp; omega
  · intro v' w' g1 g2 g3 g4
    have hs2 := g2.size
    simp only [World.size_alloc] at hs2 g4
    have hBw : Below B wr w' := ((Below.refl B wr).alloc hB _).grown g2 (by simp; omega) fun k hk => (hlt0 k hk).1
    have hkeep : ∀ b, b < wr.heap.size → v.ownBlock ≠ some b → w'.heap[b]? = wr.heap[b]? := fun b hb hn => (g2.block b (by simp; omega) fun e => hn e.symm).trans (hbA.block b hb)
    have hnew : ∀ b, b < wr.heap.size → v.ownBlock ≠ some b → v'.ownBlock ≠ some b := fun b hb hn => by
      rcases g4 with g4 | g4
      · rw [g4]; exact hn
      · rw [g4]; intro e; cases e; omega
    refine h v' w' ⟨xs ++ [.slice a' r.length c'], by rw [List.length_append]; exact g1, fun k q e => ?_⟩ hBw g4
    rcases app_at e with ⟨hk, e⟩ | ⟨hk, e⟩
    · obtain ⟨a1, c1, e1, e2, e3⟩ := h2 k q e
      exact ⟨a1, c1, by rw [List.getElem?_append_left (by omega)]; exact e1, e2, e3.same fun b hb => ⟨⟨hb.1, by omega, hnew b hb.2.1 hb.2.2⟩, hkeep b hb.2.1 hb.2.2⟩⟩
    · have hk0 := lt_of_at e
      simp at hk0
      have hk1 : k = mm.length := by omega
      subst hk1
      obtain rfl : r = q := by simpa using e
      refine ⟨a', c', by rw [← hxl, List.getElem?_append_right (Nat.le_refl _)]; simp, hcap, RIp.ofRI (lo := lo) (hi := hi) ?_ fun b hb1 hb2 => ⟨by omega, by omega, ?_⟩⟩
      · exact hr.same fun b hb1 hb2 => hkeep b (by omega) fun e => by have := hoff b e; omega
      · exact hnew b (by omega) fun e => by have := hoff b e; omega

/-- a suite that was drawn -/
def SP (N : Nat) (mm : List (List Int)) : Prop := mm.length ≤ 21 ∧ ∀ r ∈ mm, LP N r
def SQ (N : Nat) (mm : List (List Int)) : Prop := mm.length ≤ 24 ∧ ∀ r ∈ mm, LP N r
def Dls (w : World) (b K B N : Nat) (e : Ending) (w' : World) : Prop := ∃ (a : Option Addr) (c : Nat) (mm : List (List Int)), e = .returned (.slice a mm.length c) ∧ OwnX w' B (.slice a mm.length c) mm ∧ SP N mm ∧ Rdr w' b K ∧ UpB b B w w'
theorem RI.own {w : World} {lo hi B c : Nat} {a : Option Addr} {m : List Int} (h : RI w lo hi a m) (H : ∀ g, Value.ownBlock (.slice a m.length c) = some g → g < B) : RI w lo B a m := by
  intro k hk
  obtain ⟨b, o, h1, h2, h3, h4⟩ := h k hk
  subst h1
  exact ⟨b, o, rfl, h2, H b rfl, h4⟩
theorem SP.nil (N : Nat) : SP N [] := ⟨by simp, by simp⟩

/- Walks: suites that are drawn. -/
open Go.RowKit

theorem LP.okT {N : Nat} {m r : List Int} (hm : okM m = true) (hl : m.length ≤ N) (h : okT m r = true) : LP N r := by
  have h1 := okW_len h
  refine ⟨by omega, fun x hx => ?_⟩
  obtain ⟨k, hk⟩ := List.getElem?_of_mem hx
  obtain ⟨y, hy⟩ := at_of_lt (show k < m.length by have := lt_of_at hk; omega)
  have h2 := okW_at h hk hy
  have h3 := okM_at hm hy
  omega
theorem SP.snoc {N : Nat} {mm : List (List Int)} {r : List Int} (h : ∀ r ∈ mm, LP N r) (hr : LP N r) : ∀ q ∈ mm ++ [r], LP N q := fun q hq => by
  rcases List.mem_append.1 hq with hq | hq
  · exact h q hq
  · simp at hq; subst hq; exact hr
theorem OwnX.base {w : World} {B B' : Nat} {v : Value} {mm : List (List Int)} (h : OwnX w B v mm) (hB : B' ≤ B) : OwnX w B' v mm := by
  obtain ⟨xs, ⟨h1, h2⟩, h3⟩ := h
  refine ⟨xs, ⟨h1, ?_⟩, fun k r e => ?_⟩
  · rcases h2 with h2 | ⟨g, cap, cur, e, hg, rest⟩
    · exact .inl h2
    · exact .inr ⟨g, cap, cur, e, by omega, rest⟩
  · obtain ⟨a, c, e1, e2, e3⟩ := h3 k r e
    exact ⟨a, c, e1, e2, e3.same fun b hb => ⟨⟨by omega, hb.2⟩, rfl⟩⟩
theorem OwnX.cap {w : World} {B n c : Nat} {a : Option Addr} {mm : List (List Int)} (h : OwnX w B (.slice a n c) mm) : mm.length ≤ c := by
  obtain ⟨a1, c1, e, h1⟩ := h.riic
  cases e
  exact h1.cap

/-- append of nothing from the nil slice -/
theorem run_app_none {w : World} (ty : TypeId) (B : Nat) (v : Value) (l : List Int) (c : Nat) (hown : OwnL w B v l) : (Builtin.append_ #[22, 22] ty #[v, .slice none 0 c]).run Try.prog w = .ok v w := by
  obtain ⟨i0, hi, hz0, hz1, hz2⟩ := info_parts infoInt
  rcases hown.2 with ⟨rfl, h0⟩ | ⟨g, cap, cur, rfl, hb, hg, hn, hm, hs, ht⟩
  · simp [Builtin.append_, run_underlying undI, sizeOf, typeInfo, hi, Builtin.lenOf, Builtin.firstCells]
  · simp [Builtin.append_, run_underlying undI, sizeOf, typeInfo, hi, Builtin.lenOf, Builtin.firstCells, storeCells, Result.andThen, hn]
/-- append of a list, wherever it lies -/
theorem wpList_appA {wr : World} {ops : Array Oper} {rest : List Oper} {o : Oper} {a : Act} {Q : Exit → Act → World → Prop} (hgd : o.guard = none) (s t : Operand)
    (ho : o.op = .call { callee := .builtin .append, args := #[s, t], argTypes := #[22, 22] }) (B : Nat) (v : Value) (l : List Int) (hs : a.eval s = v) (hown : OwnL wr B v l) (k : List Int) (lo hi c : Nat) (a' : Option Addr)
    (hx : a.eval t = .slice a' k.length c) (hk : RI wr lo hi a' k) (hl : l.length ≤ 1099511627776) (hkl : k.length ≤ 1099511627776) (hB : B ≤ wr.heap.size)
    (h : ∀ v' w', OwnL w' B v' (l ++ k) → Below B wr w' → wpList Try.prog ops Q rest (a.put o.dst v') w') : wpList Try.prog ops Q (o :: rest) a wr := by
  cases a' with
  | some ad => exact wpList_appS hgd s t ho B v l hs hown k lo hi c ad hx hk hl hkl hB h
  | none =>
    have hk0 : k = [] := by
      cases k with
      | nil => rfl
      | cons x k => obtain ⟨b, o, e, _⟩ := hk 0 (by simp); cases e
    subst hk0
    have hr := run_app_none o.type B v l c hown
    refine Lib.wpList_append_run _ hgd s t 22 22 ho v (.slice none 0 c) hs hx v wr hr (h v wr (by simpa using hown) (Below.refl _ _))

theorem minTwo (x : Int) (wx : World) : (Builtin.min_ #[3, 3] 3 #[.int .i64 2, .int .i64 x]).run Try.prog wx = .ok (.int .i64 (min 2 x)) wx := by
  rw [run_min_int2]
  congr 2
  split <;> omega

theorem run_app1kL {w : World} {ops : Array Oper} {rest : List Oper} {o : Oper} {a0 : Act} {Q : Exit → Act → World → Prop} (hgd : o.guard = none) (s t : Operand)
    (ho : o.op = .call { callee := .builtin .append, args := #[s, t], argTypes := #[22, 22] }) (B : Nat) (a : Option Addr) (n c : Nat) (l : List Int) (hs : a0.eval s = .slice a n c) (hown : OwnL w B (.slice a n c) l) (x : Int) (nw : Nat) (hnw : nw = w.heap.size)
    (hx : a0.eval t = .slice (some ⟨nw, 0, none⟩) 1 1) (hl : l.length ≤ 1099511627776) (hB : B ≤ w.heap.size)
    (h : ∀ v' w', OwnL w' B v' (l ++ [x]) → Below B w w' → RI w' B w.heap.size a l → (∀ g, g < w.heap.size → Value.ownBlock (.slice a n c) ≠ some g → w'.heap[g]? = w.heap[g]?) → wpList Try.prog ops Q rest (a0.put o.dst v') w') : wpList Try.prog ops Q (o :: rest) a0 (w.alloc (.cells #[.int .i64 x] 3)) := by
  obtain ⟨v', w', hr, h1, h2, h3, h4⟩ := run_app1k o.type B a n c l hown x nw hnw hl hB
  exact Lib.wpList_append_run _ hgd s t 22 22 ho _ _ hs hx v' w' hr (h v' w' h1 h2 h3 h4)

/- Walks: what the laws on suites draw. -/
open Go.RowKit

/-- a suite that a law has drawn -/
structure GotS (w w' : World) (N : Nat) (a : Option Addr) (c : Nat) (s : List (List Int)) : Prop where
  ric : RIIc w' w.heap.size w'.heap.size a c s
  sq : SQ N s
/-- a list, a suite and a number that a law has drawn -/
def DrS (w : World) (e : Ending) (w' : World) : Prop := ∃ (a1 : Option Addr) (c1 : Nat) (m : List Int) (a2 : Option Addr) (c2 : Nat) (s : List (List Int)) (t : Int), e = .returned (.tuple #[.slice a1 m.length c1, .slice a2 s.length c2, .int .i64 t]) ∧ (Got w w' 10 a1 c1 m ∧ GotS w w' 12 a2 c2 s ∧ -4 ≤ t ∧ t ≤ 6) ∧ Below w.heap.size w w'

end Go.Proofs.Ytbdbfbobcdepgaa
