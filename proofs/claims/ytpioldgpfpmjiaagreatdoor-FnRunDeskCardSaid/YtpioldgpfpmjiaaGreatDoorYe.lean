/- Walks: FuseLevels. -/
import Derived.Test.YtpioldgpfpmjiaaGreatDoorYc
namespace Go.Proofs.YtpioldgpfpmjiaaGreatDoor
open Go.RowKit

/-- an element of a row that may be written -/
theorem OII.elem {w : World} {lo hi : Nat} {a : Option Addr} {mm : List (List Int)} (h : OII w lo hi a mm) (hs : hi ≤ w.heap.size) {k f : Nat} {r : List Int} (hr : mm[k]? = some r) (hf : f < r.length) :
    ∃ b0 o0 b o c1 z, a = some ⟨b0, o0, none⟩ ∧ w.cell? ⟨b0, o0 + k, none⟩ = some (.slice (some ⟨b, o, none⟩) r.length c1) ∧ r[f]? = some z ∧ w.cell? ⟨b, o + f, none⟩ = some (.int .i64 z) ∧ w.frozen? ⟨b, o + f, none⟩ = false ∧ lo ≤ b ∧ b < hi ∧
      ∀ x, OII (w.setCell ⟨b, o + f, none⟩ (.int .i64 x)) lo hi a (mm.set k (r.set f x)) := by
  have hne : r ≠ [] := by intro e; subst e; simp at hf
  rcases h with rfl | ⟨b0, o0, A, C, G, rfl, h⟩
  · simp at hr
  · have hrow := h.fam.row k r hr
    obtain ⟨b, o, ha, h1, h2, ⟨z, hz, hc⟩, hfr⟩ := hrow f hf
    have hlo := h.fam.rlo k r hr hne
    obtain rfl : b = G k := by omega
    have hcell := h.cell k r hr
    rw [ha] at hcell
    refine ⟨b0, o0, G k, o, C k, z, rfl, hcell, hz, hc, hfr, hlo.1, hlo.2, fun x => .inr ⟨b0, o0, A, C, G, rfl, ?_⟩⟩
    refine h.setRow hs hr (by simp) (fun _ => ?_) (fun j _ hj => ?_)
    · have h5 := OI.set (ha ▸ hrow) hf x
      rw [ha]
      exact h5
    · exact Below.heap_setCell _ _ _ _ (hj hne)

def fuF (y x : Int) (f : Nat) (r : List Int) : List Int := if r.getD f 0 == y - 1 then r.set f x else r
theorem fuF_hit {y x z : Int} {f : Nat} {r : List Int} (hz : r[f]? = some z) (h : z = y - 1) : fuF y x f r = r.set f x := by simp [fuF, List.getD, hz, h]
theorem fuF_miss {y x z : Int} {f : Nat} {r : List Int} (hz : r[f]? = some z) (h : z ≠ y - 1) : fuF y x f r = r := by simp [fuF, List.getD, hz, h]
theorem fuF_len (y x : Int) (f : Nat) (r : List Int) : (fuF y x f r).length = r.length := by unfold fuF; split <;> simp
def fuB (m : List Int) (s : List (List Int)) (f x : Int) : Bool := okM m && okS m s && inR f 0 ((m.length : Int) - 1) && inR x 0 (m.getD f.toNat 0 - 2)
def fuL (m : List Int) (s : List (List Int)) (f x : Int) : List (List Int) := if fuB m s f x then s.map (fuF (m.getD f.toNat 0) x f.toNat) else []
theorem fu_no {m : List Int} {s : List (List Int)} {f x : Int} (h : fuB m s f x = false) : fuL m s f x = [] ∧ fuB m s f x = false := by unfold fuL; rw [h]; exact ⟨rfl, rfl⟩
theorem fu_yes {m : List Int} {s : List (List Int)} {f x : Int} (h : fuB m s f x = true) : fuL m s f x = s.map (fuF (m.getD f.toNat 0) x f.toNat) ∧ fuB m s f x = true := by unfold fuL; rw [h]; exact ⟨rfl, rfl⟩
theorem fuB_s {m : List Int} {s : List (List Int)} {f x : Int} (h : (okM m && okS m s) = false) : fuB m s f x = false := by unfold fuB; rw [h]; rfl
theorem fuB_f {m : List Int} {s : List (List Int)} {f x : Int} (h : inR f 0 ((m.length : Int) - 1) = false) : fuB m s f x = false := by unfold fuB; rw [h]; simp
theorem fuB_x {m : List Int} {s : List (List Int)} {f : Nat} {x y : Int} (hy : m[f]? = some y) (h : inR x 0 (y - 2) = false) : fuB m s f x = false := by
  have e : m.getD (f : Int).toNat 0 = y := by simp [List.getD, hy]
  unfold fuB; rw [e, h]; simp
theorem fuB_yes {m : List Int} {s : List (List Int)} {f : Nat} {x y : Int} (h1 : (okM m && okS m s) = true) (h2 : inR (f : Int) 0 ((m.length : Int) - 1) = true) (hy : m[f]? = some y) (h : inR x 0 (y - 2) = true) : fuB m s f x = true := by
  have e : m.getD (f : Int).toNat 0 = y := by simp [List.getD, hy]
  unfold fuB; rw [e, h, h1, h2]; rfl
theorem fuL_rows {m : List Int} {s : List (List Int)} {f x : Int} : ∀ l ∈ fuL m s f x, l.length = m.length ∧ m.length ≤ 5 := by
  intro l h
  cases hb : fuB m s f x
  · rw [(fu_no hb).1] at h; simp at h
  · rw [(fu_yes hb).1] at h
    obtain ⟨r, hr, rfl⟩ := List.mem_map.1 h
    unfold fuB at hb
    simp only [Bool.and_eq_true] at hb
    exact ⟨by rw [fuF_len]; exact okW_len (okS_all hb.1.1.2 hr), (okM_len hb.1.1.1).2⟩
theorem fuL_len {m : List Int} {s : List (List Int)} {f x : Int} : (fuL m s f x).length ≤ 20 := by
  cases hb : fuB m s f x
  · rw [(fu_no hb).1]; simp
  · rw [(fu_yes hb).1, List.length_map]
    unfold fuB at hb
    simp only [Bool.and_eq_true] at hb
    exact okS_len hb.1.1.2
theorem sumLe {n : Nat} : ∀ {mm : List (List Int)} (_ : ∀ r ∈ mm, r.length ≤ n), sumL mm ≤ n * mm.length
  | [], _ => by simp [sumL]
  | r :: rs, h => by
    have h1 := h r (List.mem_cons_self ..)
    have h2 := sumLe (mm := rs) fun r hr => h r (List.mem_cons_of_mem _ hr)
    rw [sumL_cons, List.length_cons, Nat.mul_succ]; omega
theorem fuL_sum {m : List Int} {s : List (List Int)} {f x : Int} : sumL (fuL m s f x) ≤ 100 := by
  have h1 := sumLe (n := 5) (mm := fuL m s f x) fun r hr => by have := fuL_rows r hr; omega
  have h2 := @fuL_len m s f x
  omega
theorem fuL_gr {m : List Int} {s : List (List Int)} {f x : Int} : True ∧ ∀ r ∈ fuL m s f x, r.length ≤ 4611686018427387904 := ⟨trivial, fun r hr => by have := fuL_rows r hr; omega⟩

/-- the first k rows are turned, the others not yet -/
def Mid (s : List (List Int)) (F : List Int → List Int) (k : Nat) (l : List (List Int)) : Prop := l.length = s.length ∧ (∀ j, j < k → l[j]? = (s.map F)[j]?) ∧ ∀ j, k ≤ j → l[j]? = s[j]?
theorem Mid.start (s : List (List Int)) (F : List Int → List Int) : Mid s F 0 s := ⟨rfl, fun j h => absurd h (Nat.not_lt_zero j), fun _ _ => rfl⟩
theorem Mid.keep {s l : List (List Int)} {F : List Int → List Int} {k : Nat} {r : List Int} (h : Mid s F k l) (hr : s[k]? = some r) (e : F r = r) : Mid s F (k + 1) l := by
  refine ⟨h.1, fun j hj => ?_, fun j hj => h.2.2 j (by omega)⟩
  by_cases hk : j = k
  · subst hk; rw [h.2.2 j (Nat.le_refl _), List.getElem?_map, hr]; simp [e]
  · exact h.2.1 j (by omega)
theorem Mid.put {s l : List (List Int)} {F : List Int → List Int} {k : Nat} {r r' : List Int} (h : Mid s F k l) (hr : s[k]? = some r) (e : F r = r') : Mid s F (k + 1) (l.set k r') := by
  have hk0 : k < l.length := by rw [h.1]; exact lt_of_at hr
  refine ⟨by rw [List.length_set]; exact h.1, fun j hj => ?_, fun j hj => by rw [List.getElem?_set_ne (by omega)]; exact h.2.2 j (by omega)⟩
  by_cases hk : j = k
  · subst hk; rw [List.getElem?_map, hr]; simp [hk0, e]
  · rw [List.getElem?_set_ne (by omega)]; exact h.2.1 j (by omega)
theorem Mid.done {s l : List (List Int)} {F : List Int → List Int} {k : Nat} (h : Mid s F k l) (hk : s.length ≤ k) : l = s.map F := by
  apply List.ext_getElem?
  intro i
  by_cases hi : i < k
  · exact h.2.1 i hi
  · rw [List.getElem?_eq_none (by rw [h.1]; omega), List.getElem?_eq_none (by simp; omega)]

end Go.Proofs.YtpioldgpfpmjiaaGreatDoor
