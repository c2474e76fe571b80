/- Plain facts on lists of patterns. -/
import Derived.Test.YtmmebcjebphfcaaMath
namespace Go.Proofs.Ytmmebcjebphfcaa
open Go.RowKit

/-- the patterns of t levels over the levels ms -/
def patsR : List Int → Int → List (List Int)
  | [], t => if t = 0 then [[]] else []
  | l :: ms, t => if t < 0 ∨ (ms.length : Int) + 1 < t then [] else ((List.range l.toNat).flatMap fun (x : Nat) => (patsR ms (t - 1)).map ((x : Int) :: ·)) ++ (patsR ms t).map (-1 :: ·)
theorem patsR_out {ms : List Int} {t : Int} (h : t < 0 ∨ (ms.length : Int) < t) : patsR ms t = [] := by
  cases ms with
  | nil => simp only [patsR]; rw [if_neg (by simp at h; omega)]
  | cons l ms => simp only [patsR]; rw [if_pos (by simp at h; omega)]
theorem patsR_cons {l : Int} {ms : List Int} {t : Int} (h0 : 0 ≤ t) (h1 : t ≤ (ms.length : Int) + 1) :
    patsR (l :: ms) t = ((List.range l.toNat).flatMap fun (x : Nat) => (patsR ms (t - 1)).map ((x : Int) :: ·)) ++ (patsR ms t).map (-1 :: ·) := by
  simp only [patsR]; rw [if_neg (by omega)]
/-- those that begin with head -/
def patS (m head : List Int) (t : Int) : List (List Int) := (patsR (m.drop head.length) t).map (head ++ ·)
theorem patS_out {m head : List Int} {t : Int} (hh : head.length ≤ m.length) (h : t < 0 ∨ (m.length : Int) - head.length < t) : patS m head t = [] := by
  unfold patS
  rw [patsR_out (by simp; omega)]; rfl
theorem patS_end {m head : List Int} {t : Int} (hh : head.length = m.length) (h0 : t = 0) : patS m head t = [head] := by
  unfold patS
  rw [List.drop_of_length_le (by omega), h0]
  simp [patsR]
/-- the patterns with the levels below k -/
def patK (m head : List Int) (t : Int) (k : Nat) : List (List Int) := (List.range k).flatMap fun (x : Nat) => patS m (head ++ [(x : Int)]) (t - 1)
theorem patK_succ (m head : List Int) (t : Int) (k : Nat) : patK m head t (k + 1) = patK m head t k ++ patS m (head ++ [(k : Int)]) (t - 1) := by
  unfold patK; rw [List.range_succ, List.flatMap_append]; simp
theorem patS_step {m head : List Int} {t : Int} {y : Int} (hy : m[head.length]? = some y) (h0 : 0 ≤ t) (h1 : t ≤ (m.length : Int) - head.length) :
    patS m head t = patK m head t y.toNat ++ patS m (head ++ [-1]) t := by
  have hlt := lt_of_at hy
  have hd : m.drop head.length = y :: m.drop (head.length + 1) := by
    rw [List.drop_eq_getElem_cons hlt]
    rw [(List.getElem?_eq_some_iff.1 hy).2]
  unfold patS patK
  rw [hd, patsR_cons h0 (by simp; omega), List.map_append, List.map_flatMap, List.map_map]
  congr 1
  · congr 1
    funext x
    simp [patS]
  · simp
/-- how many there are at most -/
theorem patsR_len {ms : List Int} (h : ∀ y ∈ ms, y ≤ 3) (t : Int) : (patsR ms t).length ≤ 4 ^ ms.length := by
  induction ms generalizing t with
  | nil => simp only [patsR]; split <;> simp
  | cons l ms ih =>
    simp only [patsR]
    split
    · simp
    · have h1 := ih (fun y hy => h y (List.mem_cons_of_mem _ hy)) (t - 1)
      have h2 := ih (fun y hy => h y (List.mem_cons_of_mem _ hy)) t
      have h3 : l ≤ 3 := h l (List.mem_cons_self ..)
      have h4 : ((List.range l.toNat).flatMap fun (x : Nat) => (patsR ms (t - 1)).map ((x : Int) :: ·)).length = l.toNat * (patsR ms (t - 1)).length := by
        induction l.toNat with
        | zero => simp
        | succ n ihn => rw [List.range_succ, List.flatMap_append, List.length_append, ihn]; simp [Nat.succ_mul]
      rw [List.length_append, h4, List.length_map, List.length_cons, Nat.pow_succ]
      have h5 : l.toNat * (patsR ms (t - 1)).length ≤ 3 * 4 ^ ms.length := Nat.mul_le_mul (by omega) h1
      omega
theorem okM_le3 {m : List Int} (h : okM m = true) : ∀ y ∈ m, y ≤ 3 := by
  intro y hy
  obtain ⟨k, hk⟩ := List.getElem?_of_mem hy
  exact (okM_at h hk).2
theorem patS_len {m head : List Int} (h : okM m = true) (t : Int) : (patS m head t).length ≤ 1024 := by
  unfold patS
  rw [List.length_map]
  have h1 := patsR_len (ms := m.drop head.length) (fun y hy => okM_le3 h y (List.mem_of_mem_drop hy)) t
  have h2 : 4 ^ (m.drop head.length).length ≤ 4 ^ 5 := Nat.pow_le_pow_right (by omega) (by have := okM_len h; simp; omega)
  omega
theorem patK_len {m head : List Int} (h : okM m = true) (t : Int) (k : Nat) : (patK m head t k).length ≤ k * 1024 := by
  induction k with
  | zero => simp [patK]
  | succ k ih => rw [patK_succ, List.length_append, Nat.succ_mul]; have := patS_len h (head := head ++ [(k : Int)]) (t - 1); omega

end Go.Proofs.Ytmmebcjebphfcaa
