/- Walks: a copy of a slice of bools; bools that were written. -/
import Derived.Test.YtbdbfbobcdepgaaVq
namespace Go.Proofs.Ytbdbfbobcdepgaa
open Go.RowKit

theorem OBo.of_row {w : World} {b t : Nat} {m : List Bool} (h : w.rowIs b t m.length (fun i => .bool (m.getD i false))) : OBo w b (b + 1) (some ⟨b, 0, none⟩) m := by
  intro k hk
  obtain ⟨x, hx⟩ := at_of_lt hk
  refine ⟨b, 0, rfl, Nat.le_refl _, Nat.lt_succ_self _, ⟨x, hx, ?_⟩, ?_⟩
  · rw [Nat.zero_add, h.cell hk]; simp [List.getD, hx]
  · rw [Nat.zero_add]; exact h.frozen k
theorem NewBo.of_row {w w' : World} {t c : Nat} {m : List Bool} (hc : m.length ≤ c) (h : w'.rowIs w.heap.size t m.length (fun i => .bool (m.getD i false))) (hb : Below w.heap.size w w') :
    NewBo w m (.returned (.slice (some ⟨w.heap.size, 0, none⟩) m.length c)) w' := by
  refine ⟨_, _, rfl, ⟨?_, hc⟩, hb⟩
  intro k hk
  obtain ⟨b, o, h1, h2, h3, h4⟩ := OBo.of_row h k hk
  have hlt := h.lt
  exact ⟨b, o, h1, h2, by omega, h4⟩
theorem rowB_step {w : World} {b t k : Nat} {m : List Bool} {x : Bool} (h : w.rowIs b t m.length (fun i => .bool (if i < k then m.getD i false else false))) (hx : m[k]? = some x) :
    (w.setCell ⟨b, k, none⟩ (.bool x)).rowIs b t m.length (fun i => .bool (if i < k + 1 then m.getD i false else false)) := by
  refine (h.set k (.bool x)).congr fun i hi => ?_
  by_cases e : i = k
  · subst e; simp [List.getD, hx]
  · simp only [e, if_false]
    have : i < k + 1 ↔ i < k := by omega
    simp [this]
theorem rowB_end {w : World} {b t k : Nat} {m : List Bool} (h : w.rowIs b t m.length (fun i => .bool (if i < k then m.getD i false else false))) (hk : m.length ≤ k) :
    w.rowIs b t m.length (fun i => .bool (m.getD i false)) := h.congr fun i hi => by simp [show i < k by omega]
theorem rowB_start (w : World) (n t : Nat) (m : List Bool) (hn : n = m.length) : (w.alloc (.cells (madeCells #[.bool false] n) t)).rowIs w.heap.size t m.length (fun i => .bool (if i < 0 then m.getD i false else false)) := by
  subst hn
  exact (World.rowIs_made w (.bool false) m.length t).congr fun i _ => by simp

set_option maxHeartbeats 400000 in
theorem l_toBoolS {m : List Bool} {a : Option Addr} {c lo hi : Nat} {w : World} (hm : RBo w lo hi a m) (hB : hi ≤ w.heap.size) (hl : m.length ≤ 4611686018427387904) (hby : m.length ≤ 281474976710656) :
    Calls Try.prog 41 #[.slice a m.length c] w (NewBo w m) := by
  have hmk := run_make_row' (P := Try.prog) 38 4 (.bool false) 1 undB infoBool rfl .i64 .i64 m.length (by omega) (by omega)
  have hS := rowB_start w m.length 4 m rfl
  go_enter Try.func41, Try.ntmps41
  go_wp2
  go_loopw [4] (fun i wr => ∃ k : Nat, k ≤ m.length ∧ i = .int .i64 k ∧ wr.rowIs w.heap.size 4 m.length (fun i => .bool (if i < k then m.getD i false else false)) ∧ Below w.heap.size w wr) (fun i _ => m.length - (intOf i).toNat)
  case atStart => exact ⟨0, Nat.zero_le _, rfl, hS, (Below.refl _ _).alloc (Nat.le_refl _) _⟩
  case round =>
    obtain ⟨k, hk, rfl, hR, hBl⟩ := hrel
    by_cases hlt : k < m.length
    · obtain ⟨b, o, x, ha, _, _, hcell, hx⟩ := (hm.below hBl hB).at hlt
      have hidx := idxBo ha hlt c
      have hidx2 := idxBo (a := some ⟨w.heap.size, 0, none⟩) rfl hlt m.length
      simp only [Nat.zero_add] at hidx2
      have hfr := hR.frozen k
      have hcl := hR.cell hlt
      have hR2 := rowB_step hR hx.out
      have hBl2 := hBl.setCell (p := ⟨w.heap.size, k, none⟩) (Nat.le_refl _) (.bool x)
      clear ha hm hR hBl hS
      go_wp2
      go_roundw
      case rel => exact ⟨k + 1, by omega, by go_num, hR2, hBl2⟩
      case measure => simp [intOf]; omega
    · have hR2 := rowB_end hR (by omega)
      clear hR
      go_wp2
      go_ret
      exact NewBo.of_row (Nat.le_refl _) hR2 hBl

end Go.Proofs.Ytbdbfbobcdepgaa
