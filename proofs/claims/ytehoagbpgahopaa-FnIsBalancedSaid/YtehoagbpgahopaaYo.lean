/- Walks: CrossSuites of the document's side. -/
import Derived.Test.YtehoagbpgahopaaYm
namespace Go.Proofs.Ytehoagbpgahopaa
open Go.RowKit

theorem crB_a {m n : List Int} {a b : List (List Int)} (h : (okM m && okS m a) = false) : crB m a n b = false := by unfold crB; rw [h]; rfl
theorem crB_b {m n : List Int} {a b : List (List Int)} (h : (okM n && okS n b) = false) : crB m a n b = false := by unfold crB; rw [h]; simp
theorem crB_l {m n : List Int} {a b : List (List Int)} (h : 5 < m.length + n.length) : crB m a n b = false := by unfold crB; rw [show decide (m.length + n.length ≤ 5) = false from by simp; omega]; simp
theorem crB_p {m n : List Int} {a b : List (List Int)} (h : 20 < a.length * b.length) : crB m a n b = false := by unfold crB; rw [show decide (a.length * b.length ≤ 20) = false from by simp; omega]; simp
theorem crB_mk {m n : List Int} {a b : List (List Int)} (h : (okM m && okS m a) = true) (h2 : (okM n && okS n b) = true) (h3 : m.length + n.length ≤ 5) (h4 : a.length * b.length ≤ 20) : crB m a n b = true := by
  unfold crB; rw [h, h2, show decide (m.length + n.length ≤ 5) = true from by simp; omega, show decide (a.length * b.length ≤ 20) = true from by simp; omega]; rfl
theorem crX_snoc {a b : List (List Int)} {k : Nat} {r : List Int} (hr : a[k]? = some r) : crX (a.take (k + 1)) b = crX (a.take k) b ++ b.map (r ++ ·) := by
  unfold crX; rw [take_snoc hr, List.flatMap_append]; simp
theorem crX_big {a b : List (List Int)} (ha : a.length ≤ 20) (hb : b.length ≤ 20) (k q : Nat) (r : List Int) : (crX (a.take k) b ++ (b.take q).map (r ++ ·)).length ≤ 1099511627776 := by
  rw [List.length_append, crX_len, List.length_map]
  have h1 : (a.take k).length ≤ 20 := by simp; omega
  have h2 : (b.take q).length ≤ 20 := by simp; omega
  have := Nat.mul_le_mul h1 hb
  omega
theorem mul_i64 {x y P : Nat} (h : x * y = P) (hx : x ≤ 20) (hy : y ≤ 20) : IntKind.i64.wrap ((x : Int) * (y : Int)) = (P : Int) ∧ P ≤ 400 := by
  have h1 := Nat.mul_le_mul hx hy
  have h2 : (x : Int) * (y : Int) = (P : Int) := by rw [← h]; simp
  rw [h2, IntWalk.i64_in _ (by omega)]
  exact ⟨rfl, by omega⟩

/- Walks: CrossSuites of the program. -/
open Go.RowKit

/-- make([]int, N) -/
theorem makeN {N : Nat} (hN : N ≤ 1048576) (wx : World) : (Instr.makeSlice 23 (.int .i64 (N : Int)) (.int .i64 (N : Int))).run Try.prog wx = .ok (.slice (some ⟨wx.heap.size, 0, none⟩) N N) (wx.alloc (.cells (madeCells #[.int .i64 0] N) 3)) := by
  obtain ⟨inf, hinf, hzz⟩ := Option.map_eq_some_iff.1 infoInt
  simp only [Prod.mk.injEq] at hzz
  obtain ⟨hz, hsz, hby⟩ := hzz
  have h := run_makeSlice (P := Try.prog) (w := wx) 23 3 inf (.int .i64 0) undI hinf hz .i64 .i64 (N : Int) (N : Int) (by omega) (by omega) (by rw [hsz]; omega) (by rw [hby]; omega) (by omega)
  simpa [hsz, Value.cells] using h
/-- a list is copied into a new row, from a place on -/
theorem copyNew {l : List Int} {b1 o1 c lo hi dLen dCap d : Nat} {cur : Array Value} {w : World} (hl : RI w lo hi (some ⟨b1, o1, none⟩) l) (hB : hi ≤ w.heap.size) (hd : l.length ≤ dLen) (hfit : d + l.length ≤ cur.size) (ty : TypeId) :
    ∃ cs : Array Value, cs.size = cur.size ∧ cs.toList = cur.toList.take d ++ l.map (Value.int .i64) ++ cur.toList.drop (d + l.length) ∧
      (Builtin.copy_ #[23, 23] ty #[.slice (some ⟨w.heap.size, d, none⟩) dLen dCap, .slice (some ⟨b1, o1, none⟩) l.length c]).run Try.prog (w.alloc (.cells cur 3)) = .ok (goInt l.length) (w.alloc (.cells cs 3)) := by
  have hsrc : ∀ j v, (l.map (Value.int .i64))[j]? = some v → (w.alloc (.cells cur 3)).cell? ((⟨b1, o1, none⟩ : Addr).add j) = some v := by
    intro j v hv
    rw [List.getElem?_map, Option.map_eq_some_iff] at hv
    obtain ⟨x, hx, rfl⟩ := hv
    obtain ⟨b', o', e1, _, e3, x', e4, e5⟩ := hl j (lt_of_at hx)
    cases e1
    rw [hx] at e4
    cases e4
    rw [addrAdd]
    exact (World.cell?_of_block (w := w) (Below.heap_alloc w _ b1 (by omega))).trans e5
  have hn : (l.map (Value.int .i64)).length = Nat.min l.length dLen := by rw [List.length_map]; exact (Nat.min_eq_left hd).symm
  have hr := run_copy_row (P := Try.prog) (w.alloc (.cells cur 3)) 23 23 ty 3 w.heap.size d dLen dCap ⟨b1, o1, none⟩ l.length c cur 3 (l.map (Value.int .i64)) undI sizeOne
    (heap_alloc_new w _) hn hsrc (by simpa using hfit) (by simp [Value.oneCell'])
  rw [World.setRow_alloc_new, List.length_map] at hr
  refine ⟨_, ?_, ?_, hr⟩
  · simp
    omega
  · simp
theorem rowNew {w : World} {cs : Array Value} {l : List Int} {c : Nat} (h : cs.toList = l.map (Value.int .i64)) (hc : l.length ≤ c) : OIc (w.alloc (.cells cs 3)) w.heap.size (w.alloc (.cells cs 3)).heap.size (some ⟨w.heap.size, 0, none⟩) c l := by
  have hr : (w.alloc (.cells cs 3)).rowIs w.heap.size 3 l.length (fun i => .int .i64 (l.getD i 0)) := by
    refine ⟨cs, heap_alloc_new _ _, by rw [← Array.length_toList, h, List.length_map], fun i hi => ?_⟩
    rw [← Array.getElem?_toList, h, List.getElem?_map]
    obtain ⟨x, hx⟩ := at_of_lt hi
    simp [List.getD, hx]
  exact ⟨(OI.of_row hr).wide (Nat.le_refl _) (by simp), hc⟩

end Go.Proofs.Ytehoagbpgahopaa
