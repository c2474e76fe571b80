/- Plain facts of LeastTests' loops. -/
import Derived.Test.YtehoagbpgahopaaTc
namespace Go.Proofs.Ytehoagbpgahopaa

def prF (l : List Int) : Int := l.foldl (fun a x => a * x) 1
theorem prF_cons (x : Int) (l : List Int) : prF (x :: l) = x * prF l := by
  unfold prF; rw [List.foldl_cons, foldl_mul1, Int.one_mul]
theorem prF_snoc (l : List Int) (x : Int) : prF (l ++ [x]) = prF l * x := by unfold prF; rw [List.foldl_append]; rfl
theorem prF_take {l : List Int} {k : Nat} {x : Int} (h : l[k]? = some x) : prF (l.take (k + 1)) = prF (l.take k) * x := by
  rw [← prF_snoc, List.take_add_one, h]; rfl
theorem mul_ge1 {a x : Int} (ha : 1 ≤ a) (hx : 1 ≤ x) : 1 ≤ a * x := by
  have := Int.mul_le_mul ha hx (by omega) (by omega)
  omega
theorem mul_le3 {a b x : Int} (h0 : 1 ≤ a) (ha : a ≤ b) (hx : x ≤ 3) : a * x ≤ b * 3 := by
  have h1 := Int.mul_le_mul_of_nonneg_left hx (show 0 ≤ a by omega)
  omega
theorem prF_le : ∀ (l : List Int), (∀ x ∈ l, 1 ≤ x ∧ x ≤ 3) → 1 ≤ prF l ∧ prF l ≤ 3 ^ l.length
  | [], _ => by simp [prF]
  | x :: l, h => by
    have ih := prF_le l fun y hy => h y (by simp [hy])
    have hx := h x (by simp)
    rw [prF_cons, Int.mul_comm]
    refine ⟨mul_ge1 ih.1 hx.1, ?_⟩
    rw [List.length_cons, Int.pow_succ]
    exact mul_le3 ih.1 ih.2 hx.2
theorem pow3_le {n k : Nat} (h : n ≤ k) (hk : k ≤ 5) : (3 : Int) ^ n ≤ 243 := by
  have h5 : n ≤ 5 := by omega
  have : n = 0 ∨ n = 1 ∨ n = 2 ∨ n = 3 ∨ n = 4 ∨ n = 5 := by omega
  rcases this with rfl | rfl | rfl | rfl | rfl | rfl <;> decide
theorem lt_sorted1 {m S : List Int} {tn : Nat} (hm : okM m = true) (ht : tn ≤ m.length) (hp : S.Perm m) (hs : S.Pairwise (· ≤ ·)) : ltV m tn = prF (S.drop (m.length - tn)) := by
  rw [lt_yes hm (by omega) (by omega), Int.toNat_natCast, lt_sorted tn m S 1 hp hs ht, hp.length_eq, Int.one_mul]; rfl
theorem prF_mid {S : List Int} {q k : Nat} (h : ∀ x ∈ S, 1 ≤ x ∧ x ≤ 3) (hl : S.length ≤ 5) : 1 ≤ prF ((S.drop q).take k) ∧ prF ((S.drop q).take k) ≤ 243 := by
  have h1 := prF_le ((S.drop q).take k) fun x hx => h x (List.mem_of_mem_drop (List.mem_of_mem_take hx))
  refine ⟨h1.1, Int.le_trans h1.2 (pow3_le (k := 5) ?_ (Nat.le_refl _))⟩
  simp; omega
theorem okM_lv {m : List Int} (h : okM m = true) : ∀ x ∈ m, 1 ≤ x ∧ x ≤ 3 := by
  intro x hx
  obtain ⟨k, hk⟩ := List.getElem?_of_mem hx
  exact okM_at h hk
theorem perm_lv {m S : List Int} (hp : S.Perm m) (h : ∀ x ∈ m, 1 ≤ x ∧ x ≤ 3) : ∀ x ∈ S, 1 ≤ x ∧ x ≤ 3 := fun x hx => h x (hp.mem_iff.1 hx)

/-- how far LeastTests is after k rounds -/
structure LtS (m : List Int) (tn k : Nat) (l : List Int) (out : Int) : Prop where
  len : l.length = m.length - k
  lv : ∀ x ∈ l, 1 ≤ x ∧ x ≤ 3
  lo : 1 ≤ out
  hi : out ≤ 3 ^ k
  val : ltG (tn - k) l out = ltG tn m 1
theorem LtS.start {m : List Int} {tn : Nat} (hm : okM m = true) : LtS m tn 0 m 1 := ⟨rfl, okM_lv hm, Int.le_refl _, by simp, rfl⟩
theorem LtS.best {m l : List Int} {tn k : Nat} {out : Int} (h : LtS m tn k l out) (hk : k < tn) (ht : tn ≤ m.length) : mxI l < l.length := mxK_lt l l.length (by have := h.len; omega)
theorem LtS.next {m l : List Int} {tn k : Nat} {out x : Int} (h : LtS m tn k l out) (hk : k < tn) (ht : tn ≤ m.length) (hx : l[mxI l]? = some x) : LtS m tn (k + 1) (l.eraseIdx (mxI l)) (out * x) := by
  have hb := h.best hk ht
  have hxm := h.lv x (List.mem_of_getElem? hx)
  have hg : l.getD (mxI l) 0 = x := by simp [List.getD, hx]
  refine ⟨?_, fun y hy => h.lv y (List.mem_of_mem_eraseIdx hy), mul_ge1 h.lo hxm.1, ?_, ?_⟩
  · rw [List.length_eraseIdx_of_lt hb]; have := h.len; omega
  · rw [Int.pow_succ]; exact mul_le3 h.lo h.hi hxm.2
  · rw [← h.val, show tn - k = (tn - (k + 1)) + 1 by omega, ltG_succ, hg]
theorem LtS.small {m l : List Int} {tn k : Nat} {out : Int} (h : LtS m tn k l out) (hk : k ≤ 5) : out ≤ 243 := Int.le_trans h.hi (pow3_le (Nat.le_refl _) hk)
theorem LtS.mul {m l : List Int} {tn k : Nat} {out x : Int} (h : LtS m tn k l out) (hk : k ≤ 5) (hx : x ∈ l) : 1 ≤ out * x ∧ out * x ≤ 729 := by
  have h1 := h.small hk
  have h2 := mul_le3 h.lo h1 (h.lv x hx).2
  have h3 := mul_ge1 h.lo (h.lv x hx).1
  omega
theorem LtS.fin {m l : List Int} {tn : Nat} {out : Int} (h : LtS m tn tn l out) (hm : okM m = true) (ht : tn ≤ m.length) : out = ltV m tn := by
  rw [lt_yes hm (by omega) (by omega), Int.toNat_natCast, ← h.val, Nat.sub_self]; rfl
theorem mxK_step {l : List Int} {j : Nat} {x y : Int} (hx : l[j]? = some x) (hy : l[mxK l j]? = some y) : mxK l (j + 1) = if y < x then j else mxK l j := by
  have h1 : l.getD j 0 = x := by simp [List.getD, hx]
  have h2 : l.getD (mxK l j) 0 = y := by simp [List.getD, hy]
  rw [mxK, h1, h2]

end Go.Proofs.Ytehoagbpgahopaa
