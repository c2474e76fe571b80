/- Walks: the reader. -/
import Derived.Test.YtbdbfbobcdepgaaRd
import Derived.Test.YtbdbfbobcdepgaaWf
namespace Go.Proofs.Ytbdbfbobcdepgaa
open Go.RowKit

theorem pick_sum {x y p : Nat} {q : Int} (hx : x < 256) (hy : y < 256) (hp : p ≤ 1048576) (hq0 : 0 ≤ q) (hq1 : q ≤ p) :
    ∃ X : Nat, IntKind.i64.wrap (IntKind.i64.wrap (IntKind.i64.wrap (IntKind.i64.wrap (IntKind.i64.wrap (x : Int) * 131) + IntKind.i64.wrap (IntKind.i64.wrap (y : Int) * 1117)) + IntKind.i64.wrap ((p : Int) * 29)) + IntKind.i64.wrap (IntKind.i64.wrap q * 53)) = (X : Int) ∧ X < 4611686018427387904 := by
  refine ⟨((x : Int) * 131 + y * 1117 + p * 29 + q * 53).toNat, ?_, by omega⟩
  rw [IntWalk.i64_in (x : Int) (by omega), IntWalk.i64_in ((x : Int) * 131) (by omega), IntWalk.i64_in (y : Int) (by omega), IntWalk.i64_in ((y : Int) * 1117) (by omega), IntWalk.i64_in ((p : Int) * 29) (by omega), IntWalk.i64_in q (by omega), IntWalk.i64_in (q * 53) (by omega)]
  rw [IntWalk.i64_in ((x : Int) * 131 + y * 1117) (by omega), IntWalk.i64_in ((x : Int) * 131 + y * 1117 + p * 29) (by omega), IntWalk.i64_in _ (by omega)]
  omega

/- Walks: models that are drawn. -/
open Go.RowKit

/-- at most N numbers, all of them small -/
def LP (N : Nat) (l : List Int) : Prop := l.length ≤ N ∧ ∀ x ∈ l, -4 ≤ x ∧ x ≤ 4
theorem LP.mono {N N' : Nat} {l : List Int} (h : LP N l) (hN : N ≤ N') : LP N' l := ⟨Nat.le_trans h.1 hN, h.2⟩
theorem LP.nil (N : Nat) : LP N [] := ⟨Nat.zero_le _, by simp⟩
theorem LP.app {N M : Nat} {l k : List Int} (h : LP N l) (h2 : LP M k) : LP (N + M) (l ++ k) := ⟨by rw [List.length_append]; have := h.1; have := h2.1; omega, fun x hx => by (rcases List.mem_append.1 hx with h3 | h3); exact h.2 x h3; exact h2.2 x h3⟩
theorem LP.snoc {N : Nat} {l : List Int} {x : Int} (h : LP N l) (hx : -4 ≤ x ∧ x ≤ 4) : LP (N + 1) (l ++ [x]) := h.app ⟨by simp, by simpa using hx⟩
theorem LP.set {N j : Nat} {l : List Int} {x : Int} (h : LP N l) (hx : -4 ≤ x ∧ x ≤ 4) : LP N (l.set j x) :=
  ⟨by rw [List.length_set]; exact h.1, fun y hy => by (rcases List.mem_or_eq_of_mem_set hy with h3 | h3); exact h.2 y h3; exact h3 ▸ hx⟩

/-- of the blocks below B only b may have turned -/
structure UpB (b B : Nat) (w w' : World) : Prop where
  os : w'.os = w.os
  tape : w'.tape = w.tape
  output : w'.output = w.output
  size : w.heap.size ≤ w'.heap.size
  block : ∀ k, k < w.heap.size → k < B → k ≠ b → w'.heap[k]? = w.heap[k]?
theorem UpB.refl (b B : Nat) (w : World) : UpB b B w w := ⟨rfl, rfl, rfl, Nat.le_refl _, fun _ _ _ _ => rfl⟩
theorem UpB.trans {b B : Nat} {w w1 w2 : World} (h : UpB b B w w1) (k : UpB b B w1 w2) : UpB b B w w2 :=
  ⟨k.os.trans h.os, k.tape.trans h.tape, k.output.trans h.output, Nat.le_trans h.size k.size, fun i hi hB hb => (k.block i (Nat.lt_of_lt_of_le hi h.size) hB hb).trans (h.block i hi hB hb)⟩
theorem UpB.upd {b B : Nat} {w w1 w2 : World} (h : UpB b B w w1) (k : Upd b (b + 1) w1 w2) : UpB b B w w2 := h.trans ⟨k.os, k.tape, k.output, k.size, fun i hi _ hb => k.block i hi (by omega)⟩
theorem UpB.below {b B B' : Nat} {w w1 w2 : World} (h : UpB b B w w1) (k : Below B' w1 w2) (hB : B ≤ B') : UpB b B w w2 := h.trans ⟨k.os, k.tape, k.output, k.size, fun i _ hi _ => k.block i (by omega)⟩
theorem UpB.set {b B : Nat} {w w1 : World} (h : UpB b B w w1) {p : Addr} (hp : B ≤ p.block) (u : Value) : UpB b B w (w1.setCell p u) :=
  h.trans ⟨rfl, rfl, rfl, by simp [World.setCell], fun k _ hk _ => Below.heap_setCell _ _ _ _ (by omega)⟩
theorem UpB.less {b B B' : Nat} {w w1 : World} (h : UpB b B w w1) (hB : B' ≤ B) : UpB b B' w w1 := ⟨h.os, h.tape, h.output, h.size, fun k h1 h2 h3 => h.block k h1 (by omega) h3⟩
theorem UpB.toBelow {b B : Nat} {w w1 : World} (h : UpB b B w w1) (hb : b ≤ B) (hw : b ≤ w.heap.size) : Below b w w1 := ⟨h.os, h.tape, h.output, h.size, fun k hk => h.block k (by omega) (by omega) (by omega)⟩
theorem RI.upB {b B lo hi : Nat} {w w1 : World} {a : Option Addr} {m : List Int} (h : RI w lo hi a m) (hu : UpB b B w w1) (h1 : hi ≤ w.heap.size) (h2 : hi ≤ B) (h3 : b < lo) : RI w1 lo hi a m := h.same fun k h4 h5 => hu.block k (by omega) (by omega) (by omega)

theorem OwnL.same {w w' : World} {B : Nat} {v : Value} {l : List Int} (h : OwnL w B v l) (hb : ∀ g, B ≤ g → g < w.heap.size → w'.heap[g]? = w.heap[g]?) : OwnL w' B v l := by
  have hlt := World.ownsRow.lt h
  obtain ⟨h1, h2⟩ := h
  refine ⟨h1, ?_⟩
  rcases h2 with h2 | ⟨g, cap, cur, rfl, hB, hg, rest⟩
  · exact .inl h2
  · exact .inr ⟨g, cap, cur, rfl, hB, by rw [hb g (hlt g rfl).1 (hlt g rfl).2]; exact hg, rest⟩
theorem OwnL.upd {w w' : World} {b B : Nat} {v : Value} {l : List Int} (h : OwnL w B v l) (hu : Upd b (b + 1) w w') (hb : b < B) : OwnL w' B v l := h.same fun g h1 h2 => hu.block g h2 (by omega)
theorem OwnL.cap {w : World} {B n c : Nat} {a : Option Addr} {l : List Int} (h : OwnL w B (.slice a n c) l) : n = l.length ∧ l.length ≤ c := by
  obtain ⟨_, h2⟩ := h
  rcases h2 with ⟨h2, h0⟩ | ⟨g, cap, cur, e, hB, hg, hn, _⟩
  · cases h2; omega
  · cases e; exact ⟨rfl, hn⟩
/-- one of its numbers is written -/
theorem OwnL.put {w : World} {B : Nat} {a : Option Addr} {n c : Nat} {l : List Int} (h : OwnL w B (.slice a n c) l) {j : Nat} (hj : j < l.length) :
    ∃ g, a = Option.some ⟨g, 0, none⟩ ∧ B ≤ g ∧ g < w.heap.size ∧ (∃ y, w.cell? ⟨g, j, none⟩ = Option.some (.int .i64 y)) ∧ w.frozen? ⟨g, j, none⟩ = false ∧ ∀ x, OwnL (w.setCell ⟨g, j, none⟩ (.int .i64 x)) B (.slice a n c) (l.set j x) := by
  have hlt := World.ownsRow.lt h
  obtain ⟨a', c', e0, hoi⟩ := h.slice
  cases e0
  obtain ⟨b1, o1, ha, h1, h2, ⟨y, hy, hcy⟩, hfr⟩ := hoi.oi j hj
  obtain ⟨h3, h4⟩ := h
  rcases h4 with ⟨h4, h0⟩ | ⟨g, cap, cur, e, hB, hg, hn, hm, hs, ht⟩
  · omega
  · cases e
    obtain ⟨rfl, rfl⟩ : g = b1 ∧ 0 = o1 := by simpa using ha
    rw [Nat.zero_add] at hcy hfr
    refine ⟨g, rfl, hB, h2, ⟨y, hcy⟩, hfr, fun x => ⟨by simp [ints], .inr ⟨g, c, cur.setIfInBounds j (.int .i64 x), by rw [List.length_set], hB, ?_, by rw [List.length_set]; exact hn, hm, by simpa using hs, ?_⟩⟩⟩
    · simp only [World.setCell, Array.getElem?_modify, if_true]
      rw [hg]; rfl
    · rw [List.length_set, Array.toList_setIfInBounds, List.take_set, ht]
      simp [ints, List.map_set]

theorem litW (w : World) (cs : Array Value) (l : List Int) (hc : cs.toList = l.map (Value.int .i64)) : RI (w.alloc (.cells cs 3)) w.heap.size (w.heap.size + 1) (some ⟨w.heap.size, 0, none⟩) l := by
  intro k hk
  obtain ⟨x, hx⟩ := at_of_lt hk
  refine ⟨w.heap.size, 0, rfl, Nat.le_refl _, Nat.lt_succ_self _, x, hx, ?_⟩
  rw [Nat.zero_add, cell_of_row _ w.heap.size k cs 3 (0, 0) (heap_alloc_new w _), ← Array.getElem?_toList, hc]
  simp [hx]

/-- a list that was drawn: it lies from block B on; of the blocks below only the reader's has turned -/
def Dl (w : World) (b K B : Nat) (Pr : List Int → Prop) (e : Ending) (w' : World) : Prop := ∃ (a : Option Addr) (c : Nat) (l : List Int), e = .returned (.slice a l.length c) ∧ OwnL w' B (.slice a l.length c) l ∧ Pr l ∧ Rdr w' b K ∧ UpB b B w w'

/- Walks: models that are bent, tests and patterns that are drawn. -/
open Go.RowKit

/-- the greater of a number and 1 -/
def mx1 (x : Int) : Int := if x < 1 then 1 else x
theorem mx1_b {x : Int} (h : x ≤ 4) : 1 ≤ mx1 x ∧ mx1 x ≤ 4 := by unfold mx1; split <;> omega
theorem maxOne (x : Int) (wx : World) : (Builtin.max_ #[3, 3] 3 #[.int .i64 x, .int .i64 1]).run Try.prog wx = .ok (.int .i64 (mx1 x)) wx := by
  rw [run_max_int2]
  unfold mx1
  rfl

/- Walks: patterns and strengths that are drawn; what the laws draw. -/
open Go.RowKit

/-- a list that a law has drawn -/
structure Got (w w' : World) (N : Nat) (a : Option Addr) (c : Nat) (m : List Int) : Prop where
  ri : RI w' w.heap.size w'.heap.size a m
  lp : LP N m
  cap : m.length ≤ c
theorem gotUpB {w1 w2 : World} {b B : Nat} {a : Option Addr} {m : List Int} (h : RI w1 B w1.heap.size a m) (hu : UpB b w1.heap.size w1 w2) (hb : b < B) : RI w2 B w1.heap.size a m := h.upB hu (Nat.le_refl _) (Nat.le_refl _) hb

/-- two lists that a law has drawn -/
def Dr2 (w : World) (N M : Nat) (e : Ending) (w' : World) : Prop := ∃ (a1 : Option Addr) (c1 : Nat) (m : List Int) (a2 : Option Addr) (c2 : Nat) (t : List Int), e = .returned (.tuple #[.slice a1 m.length c1, .slice a2 t.length c2]) ∧ (Got w w' N a1 c1 m ∧ Got w w' M a2 c2 t) ∧ Below w.heap.size w w'

end Go.Proofs.Ytbdbfbobcdepgaa
