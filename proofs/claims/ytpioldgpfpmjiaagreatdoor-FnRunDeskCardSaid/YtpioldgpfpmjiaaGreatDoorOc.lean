/- Slices of slices that are cut at their end or their beginning. -/
import Derived.Test.YtpioldgpfpmjiaaGreatDoorOwnL
namespace Go.Proofs.YtpioldgpfpmjiaaGreatDoor
open Go.RowKit

theorem addrAdd (b o k : Nat) : (⟨b, o, none⟩ : Addr).add k = ⟨b, o + k, none⟩ := by unfold Addr.add; split <;> simp_all
theorem elemII : Program.elem Tryz.prog 49 = 45 := by kernel_rfl
theorem undIIe : Tryz.prog.underlying 49 = some (.slice (Program.elem Tryz.prog 49)) := by kernel_rfl
/-- x[:k] of a slice of slices -/
theorem sliceToII {b o n c k : Nat} {z : Int} (hz : z = (k : Int)) (hk : k ≤ c) (wx : World) : (Instr.slice 49 (.slice (some ⟨b, o, none⟩) n c) none (some (.int .i64 z)) none).run Tryz.prog wx = .ok (.slice (some ⟨b, o, none⟩) k c) wx := by
  subst hz
  rw [run_slice_h (P := Tryz.prog) (w := wx) 49 (some ⟨b, o, none⟩) n c undIIe .i64 (k : Int) (by omega) (by omega)]
  have hs := sizeI wx
  rw [elemII]
  simp [hs, Result.andThen, sliced, Addr.add]
/-- x[k:] -/
theorem sliceFromII {b o n c k : Nat} {z : Int} (hz : z = (k : Int)) (hk : k ≤ n) (hn : n ≤ c) : ∃ o', (k < n → o' = o + k) ∧ ∀ wx : World, (Instr.slice 49 (.slice (some ⟨b, o, none⟩) n c) (some (.int .i64 z)) none none).run Tryz.prog wx = .ok (.slice (some ⟨b, o', none⟩) (n - k) (c - k)) wx := by
  subst hz
  refine ⟨if c = k then o else o + k, fun h => by rw [if_neg (by omega)], fun wx => ?_⟩
  rw [run_slice_l (P := Tryz.prog) (w := wx) 49 (some ⟨b, o, none⟩) n c undIIe .i64 (k : Int) (by omega) (by omega)]
  have hs := sizeI wx
  rw [elemII]
  simp only [hs, Result.andThen, sliced, Int.toNat_natCast, Nat.mul_one, Option.map_some, addrAdd]
  split <;> rfl
theorem RII.cells {w : World} {lo hi b o : Nat} {s : List (List Int)} (h : RII w lo hi (some ⟨b, o, none⟩) s) {j : Nat} {r : List Int} (hr : s[j]? = some r) : ∃ a' c', w.cell? ⟨b, o + j, none⟩ = some (.slice a' r.length c') ∧ RI w lo hi a' r ∧ r.length ≤ c' := by
  obtain ⟨b', o', a', c', r', h1, h2, h3, h4, h5, h6, h7⟩ := h j (lt_of_at hr)
  obtain ⟨rfl, rfl⟩ : b = b' ∧ o = o' := by simpa using h1
  rw [hr] at h4
  cases h4
  exact ⟨a', c', h5, h6, h7⟩
theorem RII.take {w : World} {lo hi b o : Nat} {s : List (List Int)} (h : RII w lo hi (some ⟨b, o, none⟩) s) (k : Nat) : ∀ (j : Nat) (r : List Int), (s.take k)[j]? = some r → ∃ a' c', w.cell? ((⟨b, o, none⟩ : Addr).add j) = some (.slice a' r.length c') ∧ RI w lo hi a' r ∧ r.length ≤ c' := by
  intro j r e
  rw [addrAdd]
  refine h.cells ?_
  have hj := lt_of_at e
  simp at hj
  rwa [List.getElem?_take_of_lt (by omega)] at e
theorem RII.drop {w : World} {lo hi b o o' : Nat} {s : List (List Int)} (h : RII w lo hi (some ⟨b, o, none⟩) s) {k : Nat} (ho : k < s.length → o' = o + k) : ∀ (j : Nat) (r : List Int), (s.drop k)[j]? = some r → ∃ a' c', w.cell? ((⟨b, o', none⟩ : Addr).add j) = some (.slice a' r.length c') ∧ RI w lo hi a' r ∧ r.length ≤ c' := by
  intro j r e
  have hj := lt_of_at e
  simp at hj
  rw [addrAdd, ho (by omega), Nat.add_assoc]
  refine h.cells ?_
  rwa [List.getElem?_drop] at e
theorem RII.addc {w : World} {lo hi : Nat} {ad : Addr} {s : List (List Int)} (h : RII w lo hi (some ad) s) : ∀ (j : Nat) (r : List Int), s[j]? = some r → ∃ a' c', w.cell? (ad.add j) = some (.slice a' r.length c') ∧ RI w lo hi a' r ∧ r.length ≤ c' := by
  intro j r hr
  obtain ⟨b', o', a', c', r', h1, h2, h3, h4, h5, h6, h7⟩ := h j (lt_of_at hr)
  cases h1
  rw [hr] at h4
  cases h4
  exact ⟨a', c', by rw [addrAdd]; exact h5, h6, h7⟩
theorem RII.takeR {w : World} {lo hi b o : Nat} {s : List (List Int)} (h : RII w lo hi (some ⟨b, o, none⟩) s) (k : Nat) : RII w lo hi (some ⟨b, o, none⟩) (s.take k) := by
  intro j hj
  simp at hj
  obtain ⟨b', o', a', c', r', h1, h2, h3, h4, h5⟩ := h j (by omega)
  exact ⟨b', o', a', c', r', h1, h2, h3, by rw [List.getElem?_take_of_lt (by omega)]; exact h4, h5⟩
theorem RII.dropR {w : World} {lo hi b o o' : Nat} {s : List (List Int)} (h : RII w lo hi (some ⟨b, o, none⟩) s) {k : Nat} (ho : k < s.length → o' = o + k) : RII w lo hi (some ⟨b, o', none⟩) (s.drop k) := by
  intro j hj
  simp at hj
  obtain ⟨b', o'', a', c', r', h1, h2, h3, h4, h5, h6⟩ := h (k + j) (by omega)
  obtain ⟨rfl, rfl⟩ : b = b' ∧ o = o'' := by simpa using h1
  refine ⟨b, o', a', c', r', rfl, h2, h3, by rw [List.getElem?_drop]; exact h4, ?_, h6⟩
  rw [ho (by omega), Nat.add_assoc]; exact h5
theorem OwnRR.sliceU {w : World} {B lo hi : Nat} {v : Value} {mm : List (List Int)} (h : OwnRR w B lo hi v mm) (hl : lo ≤ B) (hs : hi ≤ w.heap.size) : ∃ a c, v = .slice a mm.length c ∧ RIIc w lo w.heap.size a c mm := by
  have hlt := h.lt
  obtain ⟨xs, h1, h2, h3⟩ := h
  rcases h1.2 with ⟨rfl, h0⟩ | ⟨g, cap, cur, rfl, hb, hg, hn, hm, hx, ht⟩
  · have e : mm = [] := List.eq_nil_of_length_eq_zero h0
    subst e
    exact ⟨none, 0, rfl, RII.nil _ _ _ _, by simp⟩
  · refine ⟨_, _, rfl, fun k hk => ?_, hn⟩
    obtain ⟨r, hr⟩ := at_of_lt hk
    obtain ⟨a, c, e1, e2, e3⟩ := h2 k r hr
    refine ⟨g, 0, a, c, r, rfl, by omega, (hlt g rfl).2, hr, ?_, e2.wide (Nat.le_refl _) hs, e3⟩
    rw [Nat.zero_add, cell_of_row w g k cur _ (0, 0) hg]
    rw [← ht, List.getElem?_take] at e1
    split at e1
    · simpa using e1
    · cases e1
theorem OwnRR.drew {w : World} {B lo hi : Nat} {v : Value} {mm : List (List Int)} (h : OwnRR w B lo hi v mm) : OwnRR w.drew B lo hi v mm := h
theorem RII.drew {w : World} {lo hi : Nat} {a : Option Addr} {mm : List (List Int)} (h : RII w lo hi a mm) : RII w.drew lo hi a mm := h
theorem Kp.drew {B lo hi : Nat} {w w' : World} (h : Kp B lo hi w w') : Kp B lo hi w w'.drew := ⟨h.os, h.tape, h.output, h.size, h.block⟩
theorem Kp.drew0 {B lo hi : Nat} {w w' : World} (h : Kp B lo hi w.drew w') : Kp B lo hi w w' := ⟨h.os, h.tape, h.output, h.size, h.block⟩

end Go.Proofs.YtpioldgpfpmjiaaGreatDoor
