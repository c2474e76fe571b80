/- Plain facts on the tests of a model one after the other: which one follows a test. -/
import Derived.Test.YtekkhadlchfjnaaZm
namespace Go.Proofs.Ytekkhadlchfjnaa

/-- the test behind a test -/
def sucL : List Int → List Int → Option (List Int)
  | y :: ms, x :: xs => match sucL ms xs with
    | some r => some (x :: r)
    | none => if x + 1 < y then some ((x + 1) :: List.replicate ms.length 0) else none
  | _, _ => none
/-- each one of a list is followed by the next one, the last one by c -/
def Chc (f : List Int → Option (List Int)) : List (List Int) → Option (List Int) → Prop
  | [], _ => True
  | [a], c => f a = c
  | a :: b :: r, c => f a = some b ∧ Chc f (b :: r) c
theorem Chc.app {f : List Int → Option (List Int)} {c : Option (List Int)} {h : List Int} {l2 : List (List Int)} : ∀ {l1 : List (List Int)}, Chc f l1 (some h) → Chc f (h :: l2) c → Chc f (l1 ++ h :: l2) c
  | [], _, h2 => h2
  | [_], h1, h2 => ⟨h1, h2⟩
  | _ :: b :: r, h1, h2 => ⟨h1.1, Chc.app (l1 := b :: r) h1.2 h2⟩
theorem Chc.cons {ms : List Int} {y x : Int} : ∀ {l : List (List Int)}, Chc (sucL ms) l none → Chc (sucL (y :: ms)) (l.map (x :: ·)) (if x + 1 < y then some ((x + 1) :: List.replicate ms.length 0) else none)
  | [], _ => True.intro
  | [a], h => by
    have h' : sucL ms a = none := h
    show sucL (y :: ms) (x :: a) = _
    simp only [sucL, h']
  | a :: b :: r, h => by
    refine ⟨?_, Chc.cons (l := b :: r) h.2⟩
    have h' : sucL ms a = some b := h.1
    simp only [sucL, h']
theorem ch_full : ∀ {ms : List Int} {t : Int}, (∀ y ∈ ms, 1 ≤ y) → t = ms.length → Chc (sucL ms) (patsR ms t) none ∧ ∃ r, patsR ms t = List.replicate ms.length 0 :: r
  | [], t, _, h => by
    subst h
    exact ⟨rfl, [], by simp [patsR]⟩
  | y :: ms, t, hy, h => by
    subst h
    rw [patsR_cons (by simp; omega) (by simp), patsR_out (t := (((y :: ms).length : Nat) : Int)) (.inr (by simp; omega)), List.map_nil, List.append_nil]
    obtain ⟨i1, r, i2⟩ := ch_full (ms := ms) (t := (((y :: ms).length : Nat) : Int) - 1) (fun z hz => hy z (by simp [hz])) (by simp)
    have hy1 := hy y (by simp)
    rw [i2] at i1 ⊢
    have key : ∀ n : Nat, 1 ≤ n → (n : Int) ≤ y → Chc (sucL (y :: ms)) ((List.range n).flatMap fun (x : Nat) => (List.replicate ms.length 0 :: r).map ((x : Int) :: ·)) (if (n : Int) < y then some ((n : Int) :: List.replicate ms.length 0) else none) ∧
        ∃ q, ((List.range n).flatMap fun (x : Nat) => (List.replicate ms.length 0 :: r).map ((x : Int) :: ·)) = (0 :: List.replicate ms.length 0) :: q := by
      intro n
      induction n with
      | zero => intro h; omega
      | succ n ih =>
        intro _ hn
        rw [List.range_succ, List.flatMap_append]
        simp only [List.flatMap_cons, List.flatMap_nil, List.append_nil]
        have hc := Chc.cons (y := y) (x := (n : Int)) i1
        rw [show ((n + 1 : Nat) : Int) = (n : Int) + 1 by omega]
        by_cases h0 : n = 0
        · subst h0
          simp only [List.range_zero, List.flatMap_nil, List.nil_append]
          exact ⟨hc, _, rfl⟩
        · obtain ⟨k1, q, k2⟩ := ih (by omega) (by omega)
          rw [if_pos (by omega)] at k1
          refine ⟨Chc.app k1 hc, ?_⟩
          rw [k2]
          exact ⟨_, rfl⟩
    obtain ⟨k1, q, k2⟩ := key y.toNat (by omega) (by omega)
    rw [if_neg (by omega)] at k1
    refine ⟨k1, q, ?_⟩
    rw [k2]; simp [List.replicate_succ]
theorem ext_ch {m : List Int} (h : okM m = true) : Chc (sucL m) (extS m []) none ∧ ∃ r, extS m [] = List.replicate m.length 0 :: r := by
  have := ch_full (ms := m) (t := m.length) (fun y hy => by
    obtain ⟨k, hk⟩ := List.getElem?_of_mem hy
    exact (okM_at h hk).1) rfl
  unfold extS patS
  simp only [List.length_nil, List.drop_zero, List.nil_append, List.map_id']
  simpa using this
theorem Chc.at {f : List Int → Option (List Int)} : ∀ {l : List (List Int)} {k : Nat} {a : List Int}, Chc f l none → l[k]? = some a → f a = l[k + 1]?
  | [], _, _, _, h => by simp at h
  | [b], 0, a, h, e => by
    obtain rfl : b = a := by simpa using e
    exact h
  | [b], k + 1, a, _, e => by simp at e
  | b :: c :: r, 0, a, h, e => by
    obtain rfl : b = a := by simpa using e
    exact h.1
  | b :: c :: r, k + 1, a, h, e => by
    have := Chc.at (l := c :: r) (k := k) h.2 (by simpa using e)
    rw [this]; simp
/-- the search of the place that is raised -/
theorem suc_none : ∀ {ms t : List Int}, t.length = ms.length → (∀ g, g < ms.length → at5 t g = at5 ms g - 1) → sucL ms t = none
  | [], [], _, _ => rfl
  | [], _ :: _, h, _ => by simp at h
  | _ :: _, [], h, _ => by simp at h
  | y :: ms, x :: xs, hl, h => by
    have h1 := suc_none (ms := ms) (t := xs) (by simpa using hl) fun g hg => h (g + 1) (by simp; omega)
    have h2 : x = y - 1 := h 0 (by simp)
    simp only [sucL, h1]
    rw [if_neg (by omega)]
theorem suc_some : ∀ {ms t : List Int} {f : Nat}, t.length = ms.length → f < ms.length → (∀ g, f < g → g < ms.length → at5 t g = at5 ms g - 1) → at5 t f + 1 < at5 ms f →
    ∃ r, sucL ms t = some r ∧ r.length = ms.length ∧ ∀ g, at5 r g = if g = f then at5 t f + 1 else if f < g then 0 else at5 t g
  | [], _, _, _, h, _, _ => by simp at h
  | _ :: _, [], _, h, _, _, _ => by simp at h
  | y :: ms, x :: xs, 0, hl, _, h, hlt => by
    have h1 := suc_none (ms := ms) (t := xs) (by simpa using hl) fun g hg => h (g + 1) (by omega) (by simp; omega)
    have h2 : x + 1 < y := hlt
    refine ⟨(x + 1) :: List.replicate ms.length 0, ?_, by simp, fun g => ?_⟩
    · simp only [sucL, h1]; rw [if_pos h2]
    · cases g with
      | zero => rfl
      | succ g =>
        rw [if_neg (by omega), if_pos (by omega), at5_cons_succ]
        unfold at5 List.getD
        rw [List.getElem?_replicate]
        split <;> rfl
  | y :: ms, x :: xs, f + 1, hl, hf, h, hlt => by
    obtain ⟨r, h1, h2, h3⟩ := suc_some (ms := ms) (t := xs) (f := f) (by simpa using hl) (by simpa using hf) (fun g hg hgm => h (g + 1) (by omega) (by simp; omega)) hlt
    refine ⟨x :: r, ?_, by simp [h2], fun g => ?_⟩
    · simp only [sucL, h1]
    · cases g with
      | zero => simp [at5_cons_zero]
      | succ g =>
        rw [at5_cons_succ, h3 g]
        by_cases e : g = f
        · subst e; simp [at5_cons_succ]
        · rw [if_neg e, if_neg (show ¬ g + 1 = f + 1 by omega)]
          by_cases e2 : f < g
          · rw [if_pos e2, if_pos (show f + 1 < g + 1 by omega)]
          · rw [if_neg e2, if_neg (show ¬ f + 1 < g + 1 by omega), at5_cons_succ]

end Go.Proofs.Ytekkhadlchfjnaa
