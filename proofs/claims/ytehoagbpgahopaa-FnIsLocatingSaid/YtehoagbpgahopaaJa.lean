/- Plain facts: what the laws on faults ask of suspects, culprits, suites that locate and detect, and faults that are hunted. -/
import Derived.Test.YtehoagbpgahopaaTb
import Derived.Test.YtehoagbpgahopaaTd
import Derived.Test.YtehoagbpgahopaaVq
import Derived.Test.YtehoagbpgahopaaVr
import Derived.Test.YtehoagbpgahopaaMap
namespace Go.Proofs.Ytehoagbpgahopaa
theorem bn_one (p x : List Int) : bnB [p] x = mB p x := by simp [bnB]
theorem row_one (s : List (List Int)) (p : List Int) : s.map (bnB [p]) = rowB s p := by
  unfold rowB; exact List.map_congr_left fun x _ => bn_one p x
theorem cul_row {s : List (List Int)} {f : List Bool} {p : List Int} (hl : f.length = s.length) : culF s f p = true ↔ rowB s p = f := by
  rw [culF_iff]
  constructor
  · intro h
    refine List.ext_getElem? fun k => ?_
    by_cases hk : k < s.length
    · obtain ⟨x, hx⟩ := at_of_lt hk
      obtain ⟨y, hy⟩ := at_of_lt (m := f) (k := k) (by omega)
      rw [hy]; unfold rowB; rw [List.getElem?_map, hx, Option.map_some, h k x y hx hy]
    · rw [List.getElem?_eq_none (by unfold rowB; simp; omega), List.getElem?_eq_none (by omega)]
  · rintro rfl k x y hx hy
    unfold rowB at hy
    rw [List.getElem?_map, hx, Option.map_some] at hy
    exact Option.some.inj hy
/-- a suspect meets no test that passes, and one that fails -/
theorem su_clear {s : List (List Int)} {f : List Bool} {p : List Int} (hl : f.length = s.length) (h : susF s f p = true) :
    (∀ (k : Nat) (x : List Int), s[k]? = some x → mB p x = true → f[k]? = some true) ∧ ∃ x ∈ s, mB p x = true := by
  unfold susF at h
  rw [Bool.and_eq_true, Bool.not_eq_true'] at h
  constructor
  · intro k x hx hm
    obtain ⟨y, hy⟩ := at_of_lt (m := f) (k := k) (by have := lt_of_at hx; omega)
    cases y
    · exfalso
      have := mtB_iff.2 ⟨k, x, hx, hy, hm⟩
      rw [h.2] at this; cases this
    · exact hy
  · obtain ⟨k, x, hx, _, hm⟩ := mtB_iff.1 h.1
    exact ⟨x, List.mem_of_getElem? hx, hm⟩
/-- a fault is among the suspects of its own results exactly if a test meets it -/
theorem su_fault {m : List Int} {s : List (List Int)} {p : List Int} (hm : okM m = true) (hp : okP m p = true) :
    p ∈ susP m s (s.map (bnB [p])) (strN p) ↔ 0 < s.countP fun x => mB p x := by
  unfold susP
  rw [List.mem_filter, row_one, List.countP_pos_iff]
  have hmem : p ∈ patS m [] (strN p) := (mem_patS hm).2 ⟨hp, rfl⟩
  constructor
  · rintro ⟨_, h⟩
    exact (su_clear (by simp [rowB]) h).2
  · rintro ⟨x, hx, hmx⟩
    refine ⟨hmem, ?_⟩
    unfold susF
    rw [Bool.and_eq_true, Bool.not_eq_true']
    obtain ⟨k, hk⟩ := List.mem_iff_getElem?.1 hx
    refine ⟨mtB_iff.2 ⟨k, x, hk, by unfold rowB; rw [List.getElem?_map, hk, Option.map_some, hmx], hmx⟩, ?_⟩
    cases hb : mtB false s (rowB s p) p
    · rfl
    · obtain ⟨j, y, h1, h2, h3⟩ := mtB_iff.1 hb
      unfold rowB at h2
      rw [List.getElem?_map, h1, Option.map_some, h3] at h2
      cases h2
/-- culprits tell the results -/
theorem cu_res {m : List Int} {s : List (List Int)} {f : List Bool} {t : Int} {p : List Int} (hp : p ∈ cuL m s f t) : s.map (bnB [p]) = f := by
  obtain ⟨h1, _, h3⟩ := cuL_mem hp
  rw [row_one]; exact (cul_row (jdG_m h1).2).1 h3
theorem cu_sus {m : List Int} {s : List (List Int)} {f : List Bool} {t : Int} (hf : true ∈ f) : ∀ p ∈ cuL m s f t, p ∈ suL m s f t := by
  intro p hp
  obtain ⟨h1, h2, h3⟩ := cuL_mem hp
  rw [su_yes h1]
  refine List.mem_filter.2 ⟨h2, ?_⟩
  have hl := (jdG_m h1).2
  unfold susF
  rw [Bool.and_eq_true, Bool.not_eq_true']
  obtain ⟨k, hk⟩ := List.mem_iff_getElem?.1 hf
  obtain ⟨x, hx⟩ := at_of_lt (m := s) (k := k) (by have := lt_of_at hk; omega)
  refine ⟨mtB_iff.2 ⟨k, x, hx, hk, culF_iff.1 h3 k x true hx hk⟩, ?_⟩
  cases hb : mtB false s f p
  · rfl
  · obtain ⟨j, y, e1, e2, e3⟩ := mtB_iff.1 hb
    have := culF_iff.1 h3 j y false e1 e2
    rw [this] at e3; cases e3
theorem flt_alone {α : Type} {P : α → Bool} : ∀ {l : List α} {p : α}, l.Nodup → p ∈ l → P p = true → (l.filter P = [p] ↔ ∀ q ∈ l, P q = true → q = p) := by
  intro l p hn hp hP
  constructor
  · intro h q hq hPq
    have : q ∈ l.filter P := List.mem_filter.2 ⟨hq, hPq⟩
    rw [h] at this; simpa using this
  · intro h
    have h1 : (l.filter P).Nodup := hn.filter _
    have h2 : p ∈ l.filter P := List.mem_filter.2 ⟨hp, hP⟩
    have h3 : ∀ q ∈ l.filter P, q = p := fun q hq => h q (List.mem_filter.1 hq).1 (List.mem_filter.1 hq).2
    cases hl : l.filter P with
    | nil => rw [hl] at h2; cases h2
    | cons a r =>
      rw [hl] at h1 h3
      have ha := h3 a (by simp)
      subst ha
      cases r with
      | nil => rfl
      | cons b r =>
        have hb := h3 b (by simp)
        subst hb
        simp at h1
/-- located patterns are alone with their results -/
theorem il_alone {m : List Int} {s : List (List Int)} {t : Int} (h : okC m s t = true) : ilB m s t = true ↔ ∀ p ∈ patS m [] t, cuL m s (s.map (bnB [p])) t = [p] := by
  have hj : ∀ p, jdG m s (s.map (bnB [p])) t = true := fun p => by unfold jdG; rw [h]; simp
  have hc : ∀ p ∈ patS m [] t, (cuL m s (s.map (bnB [p])) t = [p] ↔ ∀ q ∈ patS m [] t, rowB s q = rowB s p → q = p) := by
    intro p hp
    rw [cu_yes (hj p)]
    unfold culP
    rw [flt_alone nodup_patS hp ((cul_row (by simp)).2 (row_one s p).symm)]
    constructor
    · intro hq q h1 h2; exact hq q h1 ((cul_row (by simp)).2 (by rw [row_one]; exact h2))
    · intro hq q h1 h2; exact hq q h1 (by have := (cul_row (by simp)).1 h2; rwa [row_one] at this)
  unfold ilB
  rw [h, Bool.true_and, ilP_iff]
  constructor
  · intro hl p hp
    rw [hc p hp]
    intro q hq he
    obtain ⟨i, hi⟩ := List.mem_iff_getElem?.1 hp
    obtain ⟨k, hk⟩ := List.mem_iff_getElem?.1 hq
    rcases Nat.lt_trichotomy i k with h1 | h1 | h1
    · exact absurd he (hl k i q p hk hi h1)
    · subst h1; rw [hi] at hk; exact (Option.some.inj hk).symm
    · exact absurd he.symm (hl i k p q hi hk h1)
  · intro hl i k p q hp hq hki he
    have h1 := (hc p (List.mem_of_getElem? hp)).1 (hl p (List.mem_of_getElem? hp)) q (List.mem_of_getElem? hq) he.symm
    exact nodup_at nodup_patS hq hp hki h1
theorem ap_row {s : List (List Int)} {p q : List Int} (h : apB s p q = true) : rowB s p ≠ rowB s q := by
  intro he
  unfold apB at h
  obtain ⟨x, hx, h1⟩ := List.any_eq_true.1 h
  obtain ⟨k, hk⟩ := List.mem_iff_getElem?.1 hx
  have h2 : (rowB s p)[k]? = (rowB s q)[k]? := by rw [he]
  unfold rowB at h2
  rw [List.getElem?_map, List.getElem?_map, hk, Option.map_some, Option.map_some] at h2
  rw [Option.some.inj h2] at h1
  cases hq : mB q x <;> rw [hq] at h1 <;> simp at h1
/-- suites that detect locate, and cover if there are two patterns -/
theorem id_loc {m : List Int} {s : List (List Int)} {t : Int} (h : idB m s t = true) : ilB m s t = true ∧ ((patS m [] t).length < 2 ∨ icB m s t = true) := by
  unfold idB at h
  rw [Bool.and_eq_true] at h
  have hd := idP_iff.1 h.2
  constructor
  · unfold ilB
    rw [h.1, Bool.true_and, ilP_iff]
    intro i k p q hp hq hki
    exact ap_row (hd i k p q hp hq (by omega))
  · by_cases hl : (patS m [] t).length < 2
    · exact .inl hl
    · right
      rw [ic_yes h.1]
      have hmis : misL m s t = [] := by
        unfold misL misP
        rw [List.filter_eq_nil_iff]
        intro p hp
        obtain ⟨i, hi⟩ := List.mem_iff_getElem?.1 hp
        obtain ⟨k, hk, hne⟩ : ∃ k, k < (patS m [] t).length ∧ i ≠ k := by
          by_cases h0 : i = 0
          · exact ⟨1, by omega, by omega⟩
          · exact ⟨0, by omega, by omega⟩
        obtain ⟨q, hq⟩ := at_of_lt hk
        have ha := hd i k p q hi hq hne
        unfold apB at ha
        obtain ⟨x, hx, h1⟩ := List.any_eq_true.1 ha
        rw [Bool.and_eq_true] at h1
        have : hasP s p = true := List.any_eq_true.2 ⟨x, hx, h1.1⟩
        rw [this]; simp
      rw [hmis]; rfl

/-- hunting ends where no test parts what is left; the fault stays; each test takes a pattern away -/
theorem hu_end {m f : List Int} (_hm : okM m = true) : ∀ (k n : Nat) (left : List (List Int)), left.length ≤ k → f ∈ left →
    spB m (huG m f k left n).1 = false ∧ f ∈ (huG m f k left n).1 ∧ (huG m f k left n).2 + 1 ≤ n + left.length
  | 0, n, left, hl, hf => by
    have : left = [] := List.eq_nil_of_length_eq_zero (by omega)
    subst this; cases hf
  | k + 1, n, left, hl, hf => by
    have hpos : 0 < left.length := List.length_pos_of_mem hf
    cases h : spB m left
    · rw [huG_stop h]; exact ⟨h, hf, by simp; omega⟩
    · rw [huG_step h]
      have hlt := huK_lt (f := f) h
      have hf' : f ∈ huK f (bsL m left) left := List.mem_filter.2 ⟨hf, by simp⟩
      obtain ⟨h1, h2, h3⟩ := hu_end _hm k (n + 1) (huK f (bsL m left) left) (by omega) hf'
      exact ⟨h1, h2, by omega⟩
theorem hu_law {m f : List Int} (h : huB m f = true) : (∀ p ∈ huL m f, ∀ x ∈ extS m [], mB p x = mB f x) ∧ f ∈ huL m f ∧ 0 ≤ huN m f ∧ huN m f < ((patS m [] (strN f)).length : Int) := by
  have hb := h
  simp only [huB, Bool.and_eq_true] at h
  have hmem : f ∈ patS m [] (strN f) := (mem_patS h.1).2 ⟨h.2, rfl⟩
  obtain ⟨h1, h2, h3⟩ := hu_end h.1 1024 0 (patS m [] (strN f)) (patS_len h.1 _) hmem
  have hL : huL m f = (huR m f).1 := by unfold huL; rw [hb]; rfl
  have hN : huN m f = ((huR m f).2 : Int) := by unfold huN; rw [hb]; rfl
  rw [hL, hN]
  refine ⟨fun p hp x hx => ?_, h2, by omega, by unfold huR; omega⟩
  have hsp : ¬ ∃ x ∈ extS m [], 0 < frP (huR m f).1 x ∧ frP (huR m f).1 x < (huR m f).1.length := fun he => by
    have := (sp_iff h.1).2 he
    unfold huR at this; rw [h1] at this; cases this
  have hall : frP (huR m f).1 x = 0 ∨ frP (huR m f).1 x = (huR m f).1.length := by
    by_cases h0 : frP (huR m f).1 x = 0
    · exact .inl h0
    · right
      have := frP_all_le (huR m f).1 x
      by_cases hlt : frP (huR m f).1 x < (huR m f).1.length
      · exact absurd ⟨x, hx, by omega, hlt⟩ hsp
      · omega
  have key : ∀ q ∈ (huR m f).1, mB q x = decide (frP (huR m f).1 x ≠ 0) := by
    intro q hq
    rcases hall with h0 | h0
    · rw [h0]
      unfold frP at h0
      have := List.countP_eq_zero.1 h0 q hq
      simpa using this
    · have hq1 : mB q x = true := by
        unfold frP at h0
        exact List.countP_eq_length.1 h0 q hq
      have hpos : 0 < (huR m f).1.length := List.length_pos_of_mem hq
      rw [hq1, decide_eq_true (by omega)]
  rw [key p hp, key f h2]

/- Walks: which tests a pattern meets, as bits; slices of such numbers. -/
open Go.RowKit

theorem wrap_u64 {n : Nat} (h : n < 2 ^ 64) : IntKind.u64.wrap (n : Int) = n := by
  simp [IntKind.wrap, IntKind.bits, IntKind.signed]; omega
theorem bits_or {x y : Nat} (hx : x < 2 ^ 64) (hy : y < 2 ^ 64) : bits BinOp.or IntKind.u64 (x : Int) (y : Int) = ((x ||| y : Nat) : Int) := by
  have h3 : x ||| y < 2 ^ 64 := Nat.or_lt_two_pow hx hy
  have e : bits BinOp.or IntKind.u64 (x : Int) (y : Int) = IntKind.u64.wrap ((BitVec.ofInt 64 (x : Int) ||| BitVec.ofInt 64 (y : Int)).toNat : Nat) := rfl
  rw [e, BitVec.ofInt_natCast, BitVec.ofInt_natCast, BitVec.toNat_or, BitVec.toNat_ofNat, BitVec.toNat_ofNat, Nat.mod_eq_of_lt hx, Nat.mod_eq_of_lt hy, wrap_u64 h3]
theorem bits_and {x y : Nat} (hx : x < 2 ^ 64) (hy : y < 2 ^ 64) : bits BinOp.and IntKind.u64 (x : Int) (y : Int) = ((x &&& y : Nat) : Int) := by
  have h3 : x &&& y < 2 ^ 64 := Nat.and_lt_two_pow _ hy
  have e : bits BinOp.and IntKind.u64 (x : Int) (y : Int) = IntKind.u64.wrap ((BitVec.ofInt 64 (x : Int) &&& BitVec.ofInt 64 (y : Int)).toNat : Nat) := rfl
  rw [e, BitVec.ofInt_natCast, BitVec.ofInt_natCast, BitVec.toNat_and, BitVec.toNat_ofNat, BitVec.toNat_ofNat, Nat.mod_eq_of_lt hx, Nat.mod_eq_of_lt hy, wrap_u64 h3]
theorem bits_not {x y : Nat} (hx : x < 2 ^ 64) (hy : y < 2 ^ 64) : bits BinOp.andNot IntKind.u64 (x : Int) (y : Int) = 0 ↔ ∀ k, x.testBit k = true → y.testBit k = true := by
  have e : bits BinOp.andNot IntKind.u64 (x : Int) (y : Int) = IntKind.u64.wrap ((BitVec.ofInt 64 (x : Int) &&& ~~~BitVec.ofInt 64 (y : Int)).toNat : Nat) := rfl
  rw [e, wrap_u64 (BitVec.isLt _), BitVec.ofInt_natCast, BitVec.ofInt_natCast]
  constructor
  · intro h k hk
    have h0 : (BitVec.ofNat 64 x &&& ~~~BitVec.ofNat 64 y) = 0#64 := BitVec.eq_of_toNat_eq (by simpa using h)
    have hk64 : k < 64 := by
      apply Classical.byContradiction; intro hc
      have : x.testBit k = false := Nat.testBit_lt_two_pow (Nat.lt_of_lt_of_le hx (Nat.pow_le_pow_right (by decide) (by omega)))
      rw [this] at hk; cases hk
    have h1 : (BitVec.ofNat 64 x &&& ~~~BitVec.ofNat 64 y).getLsbD k = false := by rw [h0]; simp
    rw [BitVec.getLsbD_and, BitVec.getLsbD_not, BitVec.getLsbD_ofNat, BitVec.getLsbD_ofNat] at h1
    simpa [hk64, hk] using h1
  · intro h
    have h0 : (BitVec.ofNat 64 x &&& ~~~BitVec.ofNat 64 y) = 0#64 := by
      apply BitVec.eq_of_getLsbD_eq
      intro i hi
      rw [BitVec.getLsbD_and, BitVec.getLsbD_not, BitVec.getLsbD_ofNat, BitVec.getLsbD_ofNat]
      have hh := h i
      revert hh
      cases x.testBit i <;> cases y.testBit i <;> simp [hi]
    rw [h0]; rfl
theorem pow_u64 {k : Nat} (hk : k < 63) : IntKind.u64.wrap ((2 : Int) ^ k) = ((2 ^ k : Nat) : Int) := by
  have h1 : (2 : Nat) ^ k < 2 ^ 64 := Nat.pow_lt_pow_right (by decide) (by omega)
  have : ((2 : Int) ^ k) = ((2 ^ k : Nat) : Int) := by push_cast; rfl
  rw [this, wrap_u64 h1]
theorem or_bit {X k : Nat} (h : X < 2 ^ k) (hk : k < 63) : bits BinOp.or IntKind.u64 (X : Int) (IntKind.u64.wrap (2 ^ k)) = ((X + 2 ^ k : Nat) : Int) := by
  have h1 : (2 : Nat) ^ k < 2 ^ 63 := Nat.pow_lt_pow_right (by decide) hk
  rw [pow_u64 hk, bits_or (by omega) (by omega)]
  have := Nat.two_pow_add_eq_or_of_lt h 1
  rw [Nat.mul_one] at this
  rw [Nat.or_comm, ← this, Nat.add_comm]

set_option maxRecDepth 100000 in
set_option maxHeartbeats 4000000 in
theorem i_indicesMet {s : List (List Int)} {p : List Int} {v : Value} {B n : Nat} {w0 w : World} (ho : OwnP w0 B v s) (hb0 : Below w0.heap.size w0 w) (hl : s.length ≤ 60) (hr : ∀ r ∈ s, r.length = n) (hp : p.length = n) (hn : n ≤ 5) :
    Calls Try.prog 175 #[.agg #[.int .i64 (at5 p 0), .int .i64 (at5 p 1), .int .i64 (at5 p 2), .int .i64 (at5 p 3), .int .i64 (at5 p 4)], v] w (NewV w (.int .u64 (bitN (rowB s p) : Nat))) := by
  obtain ⟨av, cv, rfl, hat⟩ := ho.at
  have HAT := Lib.hid hat
  have HR := Lib.hid hr
  have HP := Lib.hid hp
  have hs0 := hb0.size
  obtain ⟨N, hN⟩ : ∃ N, s.length = N := ⟨_, rfl⟩
  have HN := Lib.hid hN
  have hNl : N ≤ 60 := by omega
  rw [hN] at HAT ⊢
  have hA := Lib.hid (heap_alloc_new w (.cells #[.int .i64 (at5 p 0), .int .i64 (at5 p 1), .int .i64 (at5 p 2), .int .i64 (at5 p 3), .int .i64 (at5 p 4)] 97))
  have hbA := (Below.refl w.heap.size w).alloc (Nat.le_refl _) (.cells #[.int .i64 (at5 p 0), .int .i64 (at5 p 1), .int .i64 (at5 p 2), .int .i64 (at5 p 3), .int .i64 (at5 p 4)] 97)
  obtain ⟨W, hWe⟩ : ∃ W, w.alloc (.cells #[.int .i64 (at5 p 0), .int .i64 (at5 p 1), .int .i64 (at5 p 2), .int .i64 (at5 p 3), .int .i64 (at5 p 4)] 97) = W := ⟨_, rfl⟩
  have hWs : W.heap.size = w.heap.size + 1 := by rw [← hWe]; simp
  have hWl : w.heap.size + 1 ≤ W.heap.size ∧ W.heap.size ≤ w.heap.size + 1 := by omega
  rw [hWe] at hA hbA
  clear hat ho hr hp hN hl hWs
  go_enter Try.func175, Try.ntmps175
  go_wp2_with fail
  try rw [hWe]
  clear hWe
  go_wp2
  go_loopw [5, 10] (fun v i wr => ∃ (k X : Nat), k ≤ N ∧ i = .int .i64 k ∧ v = .int .u64 (X : Nat) ∧ Hid (X = bitN (rowB (s.take k) p) ∧ X < 2 ^ k) ∧ Below W.heap.size W wr) (fun _ i _ => N - (intOf i).toNat)
  case atStart => exact ⟨0, 0, Nat.zero_le _, rfl, rfl, ⟨by simp [rowB, bitN], by decide⟩, Below.refl _ _⟩
  case round =>
    obtain ⟨k, X, hk, rfl, rfl, HX, hB3⟩ := hrel
    have hz3 := hB3.size
    by_cases hlt : k < N
    · obtain ⟨x, hx⟩ := at_of_lt (show k < s.length by have := HN.out; omega)
      obtain ⟨g, hg1, hg2, hidx, hcs⟩ := HAT.out k x hx
      have hbb : Below w0.heap.size w0 wr := hb0.trans ((hbA.trans (hB3.mono (by omega))).mono (by omega))
      have hc (j : Nat) (hj : j < 5) : wr.cell? ⟨g, k * 5 + j, none⟩ = some (.int .i64 (at5 x j)) := (hbb.cell (p := ⟨g, k * 5 + j, none⟩) hg2).trans (hcs j hj)
      have hc0 := hc 0 (by omega)
      have hc1 := hc 1 (by omega)
      have hc2 := hc 2 (by omega)
      have hc3' := hc 3 (by omega)
      have hc4 := hc 4 (by omega)
      simp only [Nat.add_zero] at hc0
      have HME : Hid (meet5 (at5 p) (at5 x) = mB p x) := by
        have h5 := HR.out x (List.mem_of_getElem? hx)
        have h6 := HP.out
        exact meet5_mB (by omega) (by omega)
      have HST : Hid (bitN (rowB (s.take (k + 1)) p) = X + (if mB p x then 2 ^ k else 0) ∧ X < 2 ^ k) := by
        refine ⟨?_, HX.out.2⟩
        unfold rowB
        rw [take_snoc hx, List.map_append, List.map_singleton, bitN_snoc, List.length_map, List.length_take, Nat.min_eq_left (by have := HN.out; omega)]
        have := HX.out.1
        unfold rowB at this
        rw [← this]
      have hbB := (Below.refl wr.heap.size wr).alloc (Nat.le_refl _) (.cells #[.int .i64 (at5 x 0), .int .i64 (at5 x 1), .int .i64 (at5 x 2), .int .i64 (at5 x 3), .int .i64 (at5 x 4)] 97)
      obtain ⟨e0, e1, e2, e3, e4⟩ := cells5 ((hbB.block w.heap.size (by omega)).trans ((hB3.block w.heap.size (by omega)).trans hA.out))
      clear hx hc hcs HX hbb
      cases hmx : mB p x
      · have HM := Lib.hid hmx
        rw [hmx] at HST
        clear hmx
        go_wp2_with fail
        refine (i_meets (at5 p) (at5 x) _).mono ?_
        rintro e w2 ⟨rfl, hb2⟩
        rw [HME.out, HM.out]
        have hB5 : Below W.heap.size W w2 := hB3.trans ((hbB.trans (hb2.mono (by simp))).mono (by omega))
        clear hbB hb2 hB3 e0 e1 e2 e3 e4 hc0 hc1 hc2 hc3' hc4
        go_wp2
        go_roundw
        case rel => exact ⟨k + 1, X, by omega, by go_num, rfl, ⟨by rw [HST.out.1]; simp, by have := HST.out.2; rw [Nat.pow_succ]; omega⟩, hB5⟩
        case measure => simp [intOf]; omega
      · have HM := Lib.hid hmx
        rw [hmx] at HST
        clear hmx
        go_wp2_with fail
        refine (i_meets (at5 p) (at5 x) _).mono ?_
        rintro e w2 ⟨rfl, hb2⟩
        rw [HME.out, HM.out]
        have hB5 : Below W.heap.size W w2 := hB3.trans ((hbB.trans (hb2.mono (by simp))).mono (by omega))
        clear hbB hb2 hB3 e0 e1 e2 e3 e4 hc0 hc1 hc2 hc3' hc4
        go_wp2
        go_roundw
        case rel => exact ⟨k + 1, X + 2 ^ k, by omega, by go_num, by rw [or_bit HST.out.2 (by omega)], ⟨by rw [HST.out.1]; simp, by have := HST.out.2; rw [Nat.pow_succ]; omega⟩, hB5⟩
        case measure => simp [intOf]; omega
    · have hkN : k = N := by omega
      have HE : Hid (X = bitN (rowB s p)) := by
        have h := HX.out.1
        rwa [List.take_of_length_le (by have := HN.out; omega)] at h
      go_wp2
      go_ret
      rw [HE.out]
      exact ⟨rfl, hbA.trans (hB3.mono (by omega))⟩

theorem undU : Try.prog.underlying 133 = some (.slice 134) := by kernel_rfl
theorem sizeU (w : World) : (sizeOf 134).run Try.prog w = .ok 1 w := by kernel_rfl
theorem infoU : (Try.prog.info? 134).map (fun i => (i.zero, i.size, i.bytes)) = some (some (.int .u64 0), 1, 8) := by kernel_rfl
/-- v owns, from block B on, n numbers l -/
def OwnUs (w : World) (B : Nat) (v : Value) (n : Nat) (l : List Value) : Prop := w.ownsRow B 134 1 v n l ∧ l.length = n
theorem OwnUs.nil (w : World) (B : Nat) : OwnUs w B (.slice none 0 0) 0 [] := ⟨World.ownsRow_nil _ _ _ _, rfl⟩
theorem OwnUs.lt {w : World} {B n : Nat} {v : Value} {l : List Value} (h : OwnUs w B v n l) : ∀ g, v.ownBlock = some g → B ≤ g ∧ g < w.heap.size := World.ownsRow.lt h.1
theorem OwnUs.kept {w w' : World} {B n : Nat} {v : Value} {l : List Value} (h : OwnUs w B v n l) (hb : ∀ k, k < w.heap.size → v.ownBlock = some k → w'.heap[k]? = w.heap[k]?) : OwnUs w' B v n l := by
  have hlt := h.lt
  obtain ⟨⟨h1, h2⟩, h0⟩ := h
  refine ⟨⟨h1, ?_⟩, h0⟩
  rcases h2 with h2 | ⟨g, cap, cur, rfl, hB, hg, rest⟩
  · exact .inl h2
  · exact .inr ⟨g, cap, cur, rfl, hB, by rw [hb g (hlt g rfl).2 rfl]; exact hg, rest⟩
theorem OwnUs.at {w : World} {B n : Nat} {v : Value} {l : List Value} (h : OwnUs w B v n l) : ∃ a c, v = .slice a n c ∧ ∀ (k : Nat) (u : Value), l[k]? = some u → ∃ g, B ≤ g ∧ g < w.heap.size ∧
    (∀ wx, (Instr.indexAt 133 (.slice a n c) (.int .i64 (k : Int))).run Try.prog wx = .ok (.pointer (some ⟨g, k, none⟩)) wx) ∧ w.cell? ⟨g, k, none⟩ = some u := by
  have hlt := h.lt
  have hn := h.2
  rcases h.1.2 with ⟨rfl, h0⟩ | ⟨g, cap, cur, rfl, hb, hg, hn', hm, hs, ht⟩
  · have e : l = [] := List.eq_nil_of_length_eq_zero (by omega)
    subst e; subst h0
    exact ⟨none, 0, rfl, by simp⟩
  · refine ⟨_, _, rfl, fun k u e => ⟨g, hb, (hlt g rfl).2, fun wx => ?_, ?_⟩⟩
    · have hk := lt_of_at e
      have h1 := sizeU wx
      have hkn : k < n := by omega
      simp [Instr.indexAt, run_underlying undU, asIntOf, hkn, Addr.add]
      try omega
    · rw [cell_of_row w g _ cur _ (0, 0) hg]
      have e2 := e
      rw [← ht, List.getElem?_take] at e2
      split at e2
      · simpa using e2
      · cases e2

/-- append of one number -/
theorem wpList_appUs {wr : World} {ops : Array Oper} {rest : List Oper} {o : Oper} {a : Act} {Q : Exit → Act → World → Prop} (hgd : o.guard = none) (s t : Operand)
    (ho : o.op = .call { callee := .builtin .append, args := #[s, t], argTypes := #[133, 133] }) (B n : Nat) (v : Value) (l : List Value) (hs : a.eval s = v) (hown : OwnUs wr B v n l) (x : Value)
    (nw : Nat) (hx : a.eval t = .slice (some ⟨nw, 0, none⟩) 1 1) (hnw : nw = wr.heap.size) (hxu : x.oneCell' = true) (hl : n ≤ 1099511627776) (hB : B ≤ wr.heap.size)
    (h : ∀ v' w', OwnUs w' B v' (n + 1) (l ++ [x]) → Below B wr w' → wpList Try.prog ops Q rest (a.put o.dst v') w') : wpList Try.prog ops Q (o :: rest) a (wr.alloc (.cells #[x] 134)) := by
  subst hnw
  obtain ⟨i0, hi, hz0, hz1, hz2⟩ := info_parts infoU
  refine wpList_append_own _ hgd s t 133 ho B 134 i0 (.int .u64 0) 1 8 undU hi hz0 hz1 hz2 rfl (by decide) v n l hs (World.ownsRow.alloc hown.1 _) ⟨wr.heap.size, 0, none⟩ 1 1 [x] hx rfl ?_ ?_ ?_ ?_ ?_ ?_
  · exact cell_one_new _ _ _
  · intro u hu
    have : u = x := by simpa using hu
    subst this; exact hxu
  · unfold maxLen; omega
  · omega
  · simp; omega
  · intro v' w' h1 h2 _
    refine h v' w' ⟨h1, by simp [hown.2]⟩ ?_
    refine (((Below.refl B wr).alloc hB _).grown h2 (by simp; omega) fun k hk => ?_)
    exact (hown.lt k hk).1

/-- which tests the patterns meet, as numbers -/
def ixV (s ps : List (List Int)) : List Value := ps.map fun p => .int .u64 (bitN (rowB s p) : Nat)
theorem ixV_snoc {s ps : List (List Int)} {k : Nat} {p : List Int} (h : ps[k]? = some p) : ixV s (ps.take (k + 1)) = ixV s (ps.take k) ++ [.int .u64 (bitN (rowB s p) : Nat)] := by
  unfold ixV; rw [take_snoc h, List.map_append]; rfl
theorem ixV_at {s ps : List (List Int)} {k : Nat} {p : List Int} (h : ps[k]? = some p) : (ixV s ps)[k]? = some (.int .u64 (bitN (rowB s p) : Nat)) := by
  unfold ixV; rw [List.getElem?_map, h]; rfl
/-- a call that makes them -/
def NewUs (w : World) (s ps : List (List Int)) (e : Ending) (w' : World) : Prop := ∃ v, e = .returned v ∧ OwnUs w' w.heap.size v ps.length (ixV s ps) ∧ Below w.heap.size w w'

set_option maxRecDepth 100000 in
set_option maxHeartbeats 4000000 in
theorem i_indicesOf {m : List Int} {s : List (List Int)} {a a' : Option Addr} {c c' lo hi lo' hi' : Nat} {w : World} {t : Int} (hok : okM m = true) (hm : RI w lo hi a m) (hB : hi ≤ w.heap.size) (hs : RII w lo' hi' a' s) (hB' : hi' ≤ w.heap.size) (hsl : s.length ≤ 60) (hr : ∀ r ∈ s, r.length = m.length) (ht0 : 0 ≤ t) (ht1 : t ≤ m.length) :
    Calls Try.prog 208 #[.slice a m.length c, .slice a' s.length c', .int .i64 t] w (NewUs w s (patS m [] t)) := by
  have hm5 := okM_len hok
  have HOK := Lib.hid hok; clear hok
  have HR := Lib.hid hr; clear hr
  have HPL := Lib.hid (patS_len (head := []) HOK.out t)
  have HPR := Lib.hid (patS_row (m := m) (t := t))
  go_enter Try.func208, Try.ntmps208
  go_wp2_with fail
  refine (i_patternsIn hs hB' (by omega) (fun r hr => by have := HR.out r hr; omega)).mono ?_
  rintro e w1 ⟨v1, rfl, ho1, hb1⟩
  obtain ⟨av1, cv1, hv1, _⟩ := ho1.at
  subst hv1
  have hz1 := hb1.size
  have hm1 := hm.below hb1 hB
  clear hm hs
  go_wp2_with fail
  refine (i_patternsOf HOK.out hm1 (by omega) ht0 ht1).mono ?_
  rintro e w2 ⟨v2, rfl, ho2, hb2⟩
  have hz2 := hb2.size
  obtain ⟨av, cv, hv2, hat⟩ := ho2.at
  subst hv2
  have HAT := Lib.hid hat
  obtain ⟨ps, hps⟩ : ∃ ps, patS m [] t = ps := ⟨_, rfl⟩
  have HPS := Lib.hid hps
  rw [hps] at HAT HPL HPR ⊢
  obtain ⟨N, hN⟩ : ∃ N, ps.length = N := ⟨_, rfl⟩
  have HN := Lib.hid hN
  have hNl : N ≤ 1024 := by have := HPL.out; omega
  rw [hN] at HAT ⊢
  have HO1 := Lib.hid ho1
  have hb02 := hb1.trans (hb2.mono hz1)
  clear hN hps hat ho2 ho1 hm1
  go_wp2
  go_loopw [8, 17] (fun v i wr => ∃ (k : Nat) (u : Value), k ≤ N ∧ i = .int .i64 k ∧ u = v ∧ OwnUs wr w2.heap.size u k (ixV s (ps.take k)) ∧ Below w2.heap.size w2 wr) (fun _ i _ => N - (intOf i).toNat)
  case atStart => exact ⟨0, _, Nat.zero_le _, rfl, rfl, OwnUs.nil _ _, Below.refl _ _⟩
  case round =>
    obtain ⟨k, u, hk, rfl, rfl, hown, hB3⟩ := hrel
    have hz3 := hB3.size
    by_cases hlt : k < N
    · obtain ⟨p, hx⟩ := at_of_lt (show k < ps.length by have := HN.out; omega)
      obtain ⟨g, hg1, hg2, hidx, hcs⟩ := HAT.out k p hx
      have hc (j : Nat) (hj : j < 5) : wr.cell? ⟨g, k * 5 + j, none⟩ = some (.int .i64 (at5 p j)) := (hB3.cell (p := ⟨g, k * 5 + j, none⟩) hg2).trans (hcs j hj)
      have hc0 := hc 0 (by omega)
      have hc1 := hc 1 (by omega)
      have hc2 := hc 2 (by omega)
      have hc3' := hc 3 (by omega)
      have hc4 := hc 4 (by omega)
      simp only [Nat.add_zero] at hc0
      have hpl := Lib.hid (HPR.out p (List.mem_of_getElem? hx))
      have hbA := (Below.refl wr.heap.size wr).alloc (Nat.le_refl _) (.cells #[.int .i64 (at5 p 0), .int .i64 (at5 p 1), .int .i64 (at5 p 2), .int .i64 (at5 p 3), .int .i64 (at5 p 4)] 97)
      have HC := Lib.hid (i_indicesMet (w := wr.alloc (.cells #[.int .i64 (at5 p 0), .int .i64 (at5 p 1), .int .i64 (at5 p 2), .int .i64 (at5 p 3), .int .i64 (at5 p 4)] 97)) (v := .slice av1 s.length cv1) HO1.out (hb2.trans ((hB3.trans (hbA.mono (by omega))).mono (by omega))) hsl HR.out hpl.out hm5.2)
      have hlt' := hown.lt
      have HT : Hid (ixV s (ps.take k) ++ [.int .u64 (bitN (rowB s p) : Nat)] = ixV s (ps.take (k + 1))) := (ixV_snoc hx).symm
      obtain ⟨X, hX⟩ : ∃ X, bitN (rowB s p) = X := ⟨_, rfl⟩
      rw [hX] at HC HT
      clear hx hc hcs hX
      go_wp2_with fail
      refine HC.out.mono ?_
      rintro e w4 ⟨rfl, hb4⟩
      have hb04 : Below wr.heap.size wr w4 := hbA.trans (hb4.mono (by simp))
      have hz4 := hb04.size
      have hown4 : OwnUs w4 w2.heap.size u k (ixV s (ps.take k)) := hown.kept fun j hj _ => hb04.block j hj
      clear hbA hb4 hown hc0 hc1 hc2 hc3' hc4 HC
      go_wp2_with (first
        | (at_builtin; refine wpList_appUs rfl (.tmp 21) (.tmp 25) rfl w2.heap.size k _ _ rfl hown4 (.int .u64 (X : Nat)) _ rfl rfl rfl (by omega) (by omega) ?_; intro v5 w5 hown5 hb5)
        | go_in)
      rw [HT.out] at hown5
      have hB5 : Below w2.heap.size w2 w5 := (hB3.trans (hb04.mono hz3)).trans hb5
      clear hB3 hb04 hb5 hown4
      go_roundw
      case rel => exact ⟨k + 1, _, by omega, by go_num, rfl, hown5, hB5⟩
      case measure => simp [intOf]; omega
    · have hkN : k = N := by omega
      have HK : Hid (ixV s (ps.take k) = ixV s ps) := by show _ = _; rw [List.take_of_length_le (by have := HN.out; omega)]
      rw [HK.out] at hown
      subst hkN
      go_wp2
      go_ret
      exact ⟨_, rfl, by rw [HPS.out, HN.out]; exact ⟨⟨hown.1.1, by rcases hown.1.2 with h | ⟨g, cap, cur, e1, e2, e3⟩; exact .inl h; exact .inr ⟨g, cap, cur, e1, by omega, e3⟩⟩, hown.2⟩, hb02.trans (hB3.mono (by omega))⟩

/- Walks: IsDetecting, by both sides. -/
open Go.RowKit

theorem id_no {m : List Int} {s : List (List Int)} {t : Int} (h : okC m s t = false) : idB m s t = false := by unfold idB; rw [h]; rfl
theorem id_yes {m : List Int} {s : List (List Int)} {t : Int} (h : okC m s t = true) : idB m s t = idP m s t := by unfold idB; rw [h]; rfl
theorem row_lt {s : List (List Int)} (h : s.length ≤ 60) (p : List Int) : bitN (rowB s p) < 2 ^ 64 := by
  have h1 := bitN_lt (rowB s p)
  have h2 : (rowB s p).length ≤ 60 := by simp [rowB]; exact h
  exact Nat.lt_of_lt_of_le h1 (Nat.pow_le_pow_right (by decide) (by omega))
theorem ap_not {s : List (List Int)} {p q : List Int} (h : s.length ≤ 60) : (bits BinOp.andNot IntKind.u64 (bitN (rowB s p) : Nat) (bitN (rowB s q) : Nat) == 0) = !apB s p q := by
  rw [Bool.eq_iff_iff, beq_iff_eq, bits_not (row_lt h p) (row_lt h q), Bool.not_eq_true', ← Bool.not_eq_true, ap_bits]
  constructor
  · rintro h1 ⟨k, h2, h3⟩; rw [h1 k h2] at h3; cases h3
  · intro h1 k h2
    cases h3 : (bitN (rowB s q)).testBit k
    · exact absurd ⟨k, h2, h3⟩ h1
    · rfl

set_option maxRecDepth 100000 in
set_option maxHeartbeats 4000000 in
theorem i_IsDetecting {m : List Int} {s : List (List Int)} {a a' : Option Addr} {c c' lo hi lo' hi' : Nat} {w : World} {t : Int} (hm : RI w lo hi a m) (hlm : m.length ≤ 9223372036854775807) (hs : RII w lo' hi' a' s) (hls : s.length ≤ 9223372036854775807) (hg : ∀ r ∈ s, r.length ≤ 9223372036854775807) (_ht0 : -9223372036854775808 ≤ t) (_ht1 : t ≤ 9223372036854775807) (hB : hi ≤ w.heap.size) (hB' : hi' ≤ w.heap.size) :
    Calls Try.prog 108 #[.slice a m.length c, .slice a' s.length c', .int .i64 t] w (NewV w (.bool (idB m s t))) := by
  have HG := Lib.hid hg; clear hg
  cases hc : okC m s t
  · have HE : Hid (idB m s t = false) := id_no hc
    have HC := Lib.hid hc; clear hc
    go_enter Try.func108, Try.ntmps108
    go_wp2_with fail
    refine (i_canCover hm hlm hs hls HG.out).mono ?_
    rintro e w1 ⟨rfl, hd⟩
    rw [HC.out]
    go_wp2
    go_ret
    exact ⟨by rw [HE.out]; rfl, Dr.below hd _⟩
  have HE : Hid (idB m s t = idP m s t) := id_yes hc
  have hp := okC_parts hc
  have HR := Lib.hid hp.2.2.2
  have hsl := hp.2.2.1
  have ht := hp.2.1
  have HOK := Lib.hid hp.1
  have HC := Lib.hid hc; clear hc hp
  have HPL := Lib.hid (patS_len (head := []) HOK.out t)
  go_enter Try.func108, Try.ntmps108
  go_wp2_with fail
  refine (i_canCover hm hlm hs hls HG.out).mono ?_
  rintro e w1 ⟨rfl, hd⟩
  rw [HC.out]
  have hd : Dr w w1 := hd
  have hz1 := Dr.le hd
  go_wp2_with fail
  refine (i_indicesOf HOK.out (hm.dr hd) (by omega) (hs.dr hd) (by omega) (by omega) HR.out ht.1 ht.2).mono ?_
  rintro e w2 ⟨v2, rfl, ho2, hb2⟩
  obtain ⟨av, cv, hv2, hat⟩ := ho2.at
  subst hv2
  have HAT := Lib.hid hat
  have hz2 := hb2.size
  have hbf : Below w.heap.size w w2 := (Dr.below hd _).trans (hb2.mono (by omega))
  obtain ⟨ps, hps⟩ : ∃ ps, patS m [] t = ps := ⟨_, rfl⟩
  have HPS := Lib.hid hps
  rw [hps] at HAT HPL ⊢
  obtain ⟨N, hN⟩ : ∃ N, ps.length = N := ⟨_, rfl⟩
  have HN := Lib.hid hN
  have hNl : N ≤ 1024 := by have := HPL.out; omega
  rw [hN] at HAT ⊢
  clear hN hps hat ho2 hm hs hd hb2
  go_wp2
  go_loopw [23] (fun i wr => ∃ k : Nat, k ≤ N ∧ i = .int .i64 k ∧ Hid (∀ (i j : Nat) (p q : List Int), i < k → ps[i]? = some p → ps[j]? = some q → i ≠ j → apB s p q = true) ∧ Dr w2 wr) (fun i _ => N - (intOf i).toNat)
  case atStart => exact ⟨0, Nat.zero_le _, rfl, fun i j p q h => absurd h (by omega), Dr.refl _⟩
  case round =>
    obtain ⟨k, hk, rfl, HI, hd⟩ := hrel
    by_cases hlt : k < N
    · obtain ⟨p, hx⟩ := at_of_lt (show k < ps.length by have := HN.out; omega)
      obtain ⟨g, hg1, hg2, hidx, hc⟩ := HAT.out k _ (ixV_at hx)
      have hc1 : wr.cell? ⟨g, k, none⟩ = some (.int .u64 (bitN (rowB s p) : Nat)) := ((Dr.below hd w2.heap.size).cell (p := ⟨g, k, none⟩) hg2).trans hc
      have HX := Lib.hid hx
      obtain ⟨X1, hX1⟩ : ∃ X : Nat, bitN (rowB s p) = X := ⟨_, rfl⟩
      have HX1 := Lib.hid hX1
      rw [hX1] at hc1
      clear hX1
      obtain ⟨wo, hwo⟩ : ∃ wo, wo = wr := ⟨_, rfl⟩
      subst hwo
      clear hx hc
      go_wp2
      go_loopw [30] (fun j wr => ∃ y : Nat, y ≤ N ∧ j = .int .i64 y ∧ Hid (∀ (j : Nat) (q : List Int), j < y → ps[j]? = some q → k ≠ j → apB s p q = true) ∧ Dr wo wr) (fun j _ => N - (intOf j).toNat)
      case atStart => exact ⟨0, Nat.zero_le _, rfl, fun j q h => absurd h (by omega), Dr.refl _⟩
      case round =>
        obtain ⟨y, hy, rfl, HJ, hd2⟩ := hrel
        have D2 := Dr.trans hd hd2
        clear hidx hc1
        by_cases hyN : y < N
        · obtain ⟨q, hxq⟩ := at_of_lt (show y < ps.length by have := HN.out; omega)
          obtain ⟨g2, hg3, hg4, hidx2, hcq⟩ := HAT.out y _ (ixV_at hxq)
          have hc2 : wr.cell? ⟨g2, y, none⟩ = some (.int .u64 (bitN (rowB s q) : Nat)) := ((Dr.below D2 w2.heap.size).cell (p := ⟨g2, y, none⟩) hg4).trans hcq
          have hapn := ap_not (p := p) (q := q) (show s.length ≤ 60 by omega)
          rw [HX1.out] at hapn
          have HJ2 : Hid ((k ≠ y → apB s p q = true) → ∀ (j : Nat) (q : List Int), j < y + 1 → ps[j]? = some q → k ≠ j → apB s p q = true) := by
            show _ → ∀ (j : Nat), _
            intro h j q' hj e1 hkj
            by_cases hjy : j = y
            · subst hjy; rw [hxq] at e1; cases e1; exact h hkj
            · exact HJ.out j q' (by omega) e1 hkj
          have HBAD : Hid (k ≠ y → apB s p q = false → idB m s t = false) := by
            show _ → _ → _
            intro h1 h2
            rw [HE.out]
            cases hb : idP m s t
            · rfl
            · have := idP_iff.1 hb k y p q (by rw [HPS.out]; exact HX.out) (by rw [HPS.out]; exact hxq) h1
              rw [h2] at this; cases this
          clear hxq hcq
          by_cases hky : k = y
          · subst hky
            have HJ3 := Lib.hid (HJ2.out fun h => absurd rfl h)
            clear hapn
            go_wp2
            go_roundw
            case rel => exact ⟨k + 1, by omega, by go_num, HJ3, hd2⟩
            case measure => simp [intOf]; omega
          · have hkyb : ((k : Int) != (y : Int)) = true := by rw [bne_iff_ne]; omega
            cases hap : apB s p q
            · have HB2 := Lib.hid (HBAD.out hky hap)
              rw [hap] at hapn
              obtain ⟨X2, hX2⟩ : ∃ X : Nat, bitN (rowB s q) = X := ⟨_, rfl⟩
              rw [hX2] at hapn hc2
              clear hX2 hap
              have hapn : (bits BinOp.andNot IntKind.u64 (X1 : Int) (X2 : Int) == 0) = true := hapn
              go_wp2
              go_ret
              exact ⟨by rw [HB2.out]; rfl, hbf.trans (Dr.below D2 _)⟩
            · have HJ3 := Lib.hid (HJ2.out fun _ => hap)
              rw [hap] at hapn
              obtain ⟨X2, hX2⟩ : ∃ X : Nat, bitN (rowB s q) = X := ⟨_, rfl⟩
              rw [hX2] at hapn hc2
              clear hX2 hap
              have hapn : (bits BinOp.andNot IntKind.u64 (X1 : Int) (X2 : Int) == 0) = false := hapn
              go_wp2
              go_roundw
              case rel => exact ⟨y + 1, by omega, by go_num, HJ3, hd2⟩
              case measure => simp [intOf]; omega
        · have HI2 : Hid (∀ (i j : Nat) (p q : List Int), i < k + 1 → ps[i]? = some p → ps[j]? = some q → i ≠ j → apB s p q = true) := by
            show ∀ (i j : Nat), _
            intro i j p' q' hi e1 e2 hij
            by_cases hik : i = k
            · subst hik
              rw [HX.out] at e1; cases e1
              exact HJ.out j q' (by have := lt_of_at e2; have := HN.out; omega) e2 hij
            · exact HI.out i j p' q' (by omega) e1 e2 hij
          clear HI HJ
          go_wp2
          go_roundw
          case rel => exact ⟨k + 1, by omega, by go_num, HI2, D2⟩
          case measure => simp [intOf]; omega
    · have HT : Hid (idB m s t = true) := by
        show _ = _
        rw [HE.out]
        exact idP_iff.2 fun i j p q h1 h2 h3 => HI.out i j p q (by rw [HPS.out] at h1; have := lt_of_at h1; have := HN.out; omega) (by rw [← HPS.out]; exact h1) (by rw [← HPS.out]; exact h2) h3
      go_wp2
      go_ret
      exact ⟨by rw [HT.out]; rfl, hbf.trans (Dr.below hd _)⟩

set_option maxHeartbeats 1000000 in
theorem s_apart {s : List (List Int)} {p q : List Int} {a a1 a2 : Option Addr} {c c1 c2 lo hi lo1 hi1 lo2 hi2 : Nat} {w : World} (hs : RII w lo1 hi1 a1 s) (hp : RI w lo hi a p) (hq : RI w lo2 hi2 a2 q) (hsl : s.length ≤ 1048576) (hr : ∀ r ∈ s, r.length = p.length) (hpl : p.length ≤ 1048576) (hql : q.length = p.length) :
    Calls Try.prog 211 #[.slice a1 s.length c1, .slice a p.length c, .slice a2 q.length c2] w (RO w (.bool (apB s p q))) := by
  have HR := Lib.hid hr
  have HQ := Lib.hid hql
  obtain ⟨N, hN⟩ : ∃ N, s.length = N := ⟨_, rfl⟩
  have HN := Lib.hid hN
  have hNl : N ≤ 1048576 := by omega
  have hqb : q.length ≤ p.length := by omega
  rw [hN]
  clear hr hN hsl hql
  go_enter Try.func211, Try.ntmps211
  go_wp2
  go_loopw [7] (fun j wr => ∃ y : Nat, y ≤ N ∧ j = .int .i64 y ∧ Hid (apB (s.take y) p q = false) ∧ Dr w wr) (fun j _ => N - (intOf j).toNat)
  case atStart => exact ⟨0, Nat.zero_le _, rfl, by simp [Hid, apB], Dr.refl _⟩
  case round =>
    obtain ⟨y, hy, rfl, HA, hd⟩ := hrel
    by_cases hyk : y < N
    · obtain ⟨b2, o2, a4, c4, x, ha4, _, _, hc4, hx4, hxx⟩ := (hs.dr hd).at (show y < s.length by have := HN.out; omega)
      have hi4 := idxII ha4 hyk c1
      have hxl := HR.out x (List.mem_of_getElem? hxx.out)
      have hxlb : x.length ≤ p.length ∧ p.length ≤ x.length := by omega
      have HST : Hid (apB (s.take (y + 1)) p q = (mB p x && !mB q x)) := by
        show _ = _
        have := HA.out
        unfold apB at this ⊢
        rw [take_snoc hxx.out, List.any_append, this]; simp
      have HYES : Hid ((mB p x && !mB q x) = true → apB s p q = true) := by
        show _ → _
        intro h
        exact List.any_eq_true.2 ⟨x, List.mem_of_getElem? hxx.out, h⟩
      have hp2 := hp.dr hd
      have hq2 := hq.dr hd
      clear ha4 hxl hxx HA hs
      cases hmp : mB p x
      · have HM := Lib.hid hmp
        rw [hmp] at HST
        clear hmp
        go_wp2_with fail
        refine (s_matches hp2 hx4 (by omega) (by omega)).mono ?_
        rintro e w2 ⟨rfl, hd2⟩
        rw [HM.out]
        have D2 := Dr.trans hd hd2
        go_wp2
        go_roundw
        case rel => exact ⟨y + 1, by omega, by go_num, HST, D2⟩
        case measure => simp [intOf]; omega
      · have HM := Lib.hid hmp
        rw [hmp] at HST HYES
        clear hmp
        cases hmq : mB q x
        all_goals
          have HM2 := Lib.hid hmq
          rw [hmq] at HST HYES
          clear hmq
          go_wp2_with fail
          refine (s_matches hp2 hx4 (by omega) (by omega)).mono ?_
          rintro e w2 ⟨rfl, hd2⟩
          rw [HM.out]
          have D2 := Dr.trans hd hd2
          have hc5 : w2.cell? ⟨b2, o2 + y, none⟩ = some (.slice a4 x.length c4) := by obtain ⟨nn, rfl⟩ := hd2; exact hc4
          have hx5 := hx4.dr hd2
          have hq5 := hq2.dr hd2
          go_wp2_with fail
          refine (s_matches hq5 hx5 (by omega) (by omega)).mono ?_
          rintro e w3 ⟨rfl, hd3⟩
          rw [HM2.out]
          have D3 := Dr.trans D2 hd3
          go_wp2
          first
            | (go_ret; exact Dr.boolD (b := true) D3 (HYES.out rfl).symm)
            | (go_roundw
               case rel => exact ⟨y + 1, by omega, by go_num, HST, D3⟩
               case measure => simp [intOf]; omega)
    · have HE : Hid (apB s p q = false) := by
        have h := HA.out
        rwa [List.take_of_length_le (by have := HN.out; omega)] at h
      go_wp2
      go_ret
      exact Dr.boolD (b := false) hd HE.out.symm

/- Walks: IsDetecting and IsLocating, by the model. -/
open Go.RowKit

set_option maxRecDepth 100000 in
set_option maxHeartbeats 4000000 in
theorem s_IsDetecting {m : List Int} {s : List (List Int)} {a a' : Option Addr} {c c' lo hi lo' hi' : Nat} {w : World} {t : Int} (hm : RI w lo hi a m) (hlm : m.length ≤ 9223372036854775807) (hs : RII w lo' hi' a' s) (hls : s.length ≤ 9223372036854775807) (hg : ∀ r ∈ s, r.length ≤ 9223372036854775807) (_ht0 : -9223372036854775808 ≤ t) (_ht1 : t ≤ 9223372036854775807) (hB : hi ≤ w.heap.size) (hB' : hi' ≤ w.heap.size) :
    Calls Try.prog 109 #[.slice a m.length c, .slice a' s.length c', .int .i64 t] w (NewV w (.bool (idB m s t))) := by
  have HG := Lib.hid hg; clear hg
  cases hc : okC m s t
  · have HE : Hid (idB m s t = false) := id_no hc
    have HC := Lib.hid hc; clear hc
    go_enter Try.func109, Try.ntmps109
    go_wp2_with fail
    refine (s_good hm hlm hs hls HG.out).mono ?_
    rintro e w1 ⟨rfl, hd⟩
    rw [HC.out]
    go_wp2
    go_ret
    exact ⟨by rw [HE.out]; rfl, Dr.below hd _⟩
  have HE : Hid (idB m s t = idP m s t) := id_yes hc
  have hp := okC_parts hc
  have HLN := Lib.hid (patS_len (head := []) hp.1 t)
  have HR := Lib.hid hp.2.2.2
  have hsl := hp.2.2.1
  have ht := hp.2.1
  have HOK := Lib.hid hp.1
  have hm5 := okM_len hp.1
  have HC := Lib.hid hc; clear hc hp
  go_enter Try.func109, Try.ntmps109
  go_wp2_with fail
  refine (s_good hm hlm hs hls HG.out).mono ?_
  rintro e w1 ⟨rfl, hd⟩
  rw [HC.out]
  have hz1 := Dr.le hd
  have hm1 := hm.dr hd
  have hs1 := hs.dr hd
  have hbA := (Below.refl w1.heap.size w1).alloc (Nat.le_refl _) (.cells #[] 3)
  go_wp2_with fail
  refine (s_patterns HOK.out m.length [] a ⟨w1.heap.size, 0, none⟩ c 0 lo hi 0 0 _ t (by simp) (hm1.below hbA (by omega)) (by simp; omega) (RI.nil _ _ _ _) (by simp) (by omega) (by omega)).mono ?_
  rintro e w2 ⟨ad, cc, rfl, h2, hb2⟩
  obtain ⟨ps, hps⟩ : ∃ ps, patS m [] t = ps := ⟨_, rfl⟩
  have HPS := Lib.hid hps
  have HPL : Hid (∀ p ∈ ps, p.length = m.length) := by show ∀ p ∈ ps, _; rw [← hps]; exact fun p hp => patS_row p hp
  rw [hps] at h2 HLN
  rw [hps]
  clear hps
  have hsz2 := hb2.size
  simp only [World.size_alloc] at hsz2
  have hb12 := hbA.trans (hb2.mono (by simp))
  have hBf := (Dr.below hd w.heap.size).trans (hb12.mono hz1.2)
  have hs2 := hs1.below hb12 (by omega)
  have hr2 := h2.rii
  obtain ⟨M, hM⟩ : ∃ M, ps.length = M := ⟨_, rfl⟩
  have HNN := Lib.hid hM
  have hMl : M ≤ 1024 := by have := HLN.out; omega
  rw [hM]
  clear hM h2 hb2 hbA hb12 hm hs hm1 hs1 hd
  go_wp2
  go_loopw [8, 9] (fun i _ wr => ∃ k : Nat, k ≤ M ∧ i = .int .i64 k ∧ Hid (∀ (i j : Nat) (p q : List Int), i < k → ps[i]? = some p → ps[j]? = some q → i ≠ j → apB s p q = true) ∧ Dr w2 wr) (fun i _ _ => M - (intOf i).toNat)
  case atStart => exact ⟨0, Nat.zero_le _, rfl, fun x _ _ _ hx => absurd hx (by omega), Dr.refl _⟩
  case round =>
    obtain ⟨k, hk, rfl, hI, hd⟩ := hrel
    by_cases hlt : k < M
    · obtain ⟨wo, hwo⟩ : ∃ wo, wo = wr := ⟨_, rfl⟩
      subst hwo
      go_wp2
      go_loopw [9] (fun j wr => ∃ y : Nat, y ≤ M ∧ j = .int .i64 y ∧ Hid (∀ (j : Nat) (p q : List Int), j < y → ps[k]? = some p → ps[j]? = some q → k ≠ j → apB s p q = true) ∧ Dr wo wr) (fun j _ => M - (intOf j).toNat)
      case atStart => exact ⟨0, Nat.zero_le _, rfl, fun y' _ _ hy => absurd hy (by omega), Dr.refl _⟩
      case round =>
        obtain ⟨y, hy, rfl, hJ, hd2⟩ := hrel
        have D2 := Dr.trans hd hd2
        by_cases hyk : y < M
        · obtain ⟨b1, o1, a1, c1, p, ha1, _, _, hc1, hp1, hx1⟩ := (hr2.dr D2).at (show k < ps.length by have := HNN.out; omega)
          obtain ⟨b2, o2, a2, c2, q, ha2, _, _, hc2, hp2, hx2⟩ := (hr2.dr D2).at (show y < ps.length by have := HNN.out; omega)
          have hi1 := idxII ha1 hlt cc
          have hi2 := idxII ha2 (show y < M by omega) cc
          have hpl := HPL.out p (List.mem_of_getElem? hx1.out)
          have hql := HPL.out q (List.mem_of_getElem? hx2.out)
          have hss := hs2.dr D2
          have HAP := Lib.hid (fun nn => s_apart (c := c1) (c1 := c') (c2 := c2) (hss.dr (w' := wr.drewN nn) ⟨nn, rfl⟩) (hp1.drewN nn) (hp2.drewN nn) (by omega) (fun r hr => by have := HR.out r hr; omega) (by omega) (by omega))
          have HJ2 : Hid ((k ≠ y → apB s p q = true) → ∀ (j : Nat) (p q : List Int), j < y + 1 → ps[k]? = some p → ps[j]? = some q → k ≠ j → apB s p q = true) := by
            show _ → ∀ (j : Nat), _
            intro h y' p' q' hy' e1 e2 ha
            by_cases hyy : y' = y
            · subst hyy
              rw [hx1.out] at e1; rw [hx2.out] at e2
              cases e1; cases e2
              exact h ha
            · exact hJ.out y' p' q' (by omega) e1 e2 ha
          have HBAD : Hid (k ≠ y → apB s p q = false → idB m s t = false) := by
            show _ → _ → _
            intro h1 h2
            rw [HE.out]
            cases hb : idP m s t
            · rfl
            · have := idP_iff.1 hb k y p q (by rw [HPS.out]; exact hx1.out) (by rw [HPS.out]; exact hx2.out) h1
              rw [h2] at this; cases this
          by_cases hky : k = y
          · have HJ3 := Lib.hid (HJ2.out fun h => absurd hky h)
            have hkyb : ((k : Int) != (y : Int)) = false := by rw [hky]; exact bne_self_eq_false _
            clear HJ2 HAP hss hp1 hp2 ha1 ha2 hpl hql hx1 hx2 hJ HBAD hky
            go_wp2_with fail
            go_quiet (fail)
            go_wp2
            go_roundw
            case rel => exact ⟨y + 1, by omega, by go_num, HJ3, Dr.drewN hd2 _⟩
            case measure => simp [intOf]; omega
          · have hkyb : ((k : Int) != (y : Int)) = true := by rw [bne_iff_ne]; omega
            cases hap : apB s p q
            · have HB2 := Lib.hid (HBAD.out hky hap)
              rw [hap] at HAP
              clear HJ2 hss hp1 hp2 ha1 ha2 hpl hql hx1 hx2 hJ HBAD hap
              go_wp2_with fail
              go_quiet (exact Calls.quiet_of (HAP.out _))
              go_wp2
              go_ret
              exact ⟨by rw [HB2.out]; rfl, hBf.trans (Dr.below (Dr.drewN D2 _) _)⟩
            · have HJ3 := Lib.hid (HJ2.out fun _ => hap)
              rw [hap] at HAP
              clear HJ2 hss hp1 hp2 ha1 ha2 hpl hql hx1 hx2 hJ HBAD hap
              go_wp2_with fail
              go_quiet (exact Calls.quiet_of (HAP.out _))
              go_wp2
              go_roundw
              case rel => exact ⟨y + 1, by omega, by go_num, HJ3, Dr.drewN hd2 _⟩
              case measure => simp [intOf]; omega
        · have HI2 : Hid (∀ (i j : Nat) (p q : List Int), i < k + 1 → ps[i]? = some p → ps[j]? = some q → i ≠ j → apB s p q = true) := by
            show ∀ (i j : Nat) p q, _
            intro x y' p q hx e1 e2 hij
            by_cases hxk : x = k
            · subst hxk; exact hJ.out y' p q (by have := lt_of_at e2; have := HNN.out; omega) e1 e2 hij
            · exact hI.out x y' p q (by omega) e1 e2 hij
          clear hI hJ
          go_wp2
          go_roundw
          case rel => exact ⟨k + 1, by omega, by go_num, HI2, D2⟩
          case measure => simp [intOf]; omega
    · have HBT : Hid (idB m s t = true) := by
        show _ = _
        rw [HE.out]
        exact idP_iff.2 fun i j p q h1 h2 h3 => hI.out i j p q (by rw [HPS.out] at h1; have := lt_of_at h1; have := HNN.out; omega) (by rw [← HPS.out]; exact h1) (by rw [← HPS.out]; exact h2) h3
      go_wp2
      go_ret
      exact ⟨by rw [HBT.out]; rfl, hBf.trans (Dr.below hd _)⟩

set_option maxHeartbeats 400000 in
theorem s_equal {x y : List Bool} {a b : Option Addr} {c d lo hi lo' hi' n : Nat} {w : World} (hx : RBo w lo hi a x) (hy : RBo w lo' hi' b y) (hxn : x.length = n) (hyn : y.length = n) (hl : n ≤ 1048576) :
    Calls Try.prog 209 #[.slice a n c, .slice b n d] w (RO w (.bool (eqBo x y))) := by
  have HN : Hid (y.length = n) := hyn
  have HM : Hid (x.length = n) := hxn
  clear hxn hyn
  go_enter Try.func209, Try.ntmps209
  go_wp2
  go_loopw [5] (fun i wr => ∃ k q : Nat, k ≤ n ∧ i = .int .i64 k ∧ wr = w.drewN q ∧ Hid (x.take k = y.take k)) (fun i _ => n - (intOf i).toNat)
  case atStart => exact ⟨0, 0, Nat.zero_le _, rfl, rfl, rfl⟩
  case round =>
    obtain ⟨k, q, hk, rfl, rfl, hA⟩ := hrel
    by_cases hlt : k < n
    · obtain ⟨b1, o1, u, ha, _, _, hcell, hu⟩ := hx.at (show k < x.length by rw [HM.out]; exact hlt)
      obtain ⟨b2, o2, v, hb, _, _, hcell2, hv⟩ := hy.at (show k < y.length by rw [HN.out]; exact hlt)
      have hidx := idxBo ha hlt c
      have hidx2 := idxBo hb hlt d
      clear ha hb hx hy
      by_cases huv : u = v
      · subst huv
        have HA2 : Hid (x.take (k + 1) = y.take (k + 1)) := by
          show x.take (k + 1) = y.take (k + 1)
          rw [take_snoc hu.out, take_snoc hv.out, hA.out]
        cases u
        all_goals
          go_wp2
          go_quiet (fail)
          go_wp2
          go_roundw
          case rel => exact ⟨k + 1, _, by omega, by go_num, rfl, HA2⟩
          case measure => simp [intOf]; omega
      · have HNE : Hid (eqBo x y = false) := eqBo_no (by
          intro e
          have h1 := hu.out; have h2 := hv.out
          rw [e, h2] at h1
          exact huv (Option.some.inj h1).symm)
        cases u <;> cases v <;> first | (exact absurd rfl huv) | skip
        all_goals
          clear huv
          go_wp2
          go_quiet (fail)
          go_wp2
          go_ret
          exact RO.bool2 (b := false) HNE.out.symm _ _
    · have HE : Hid (eqBo x y = true) := eqBo_true.2 (by
        have h1 := hA.out
        rwa [List.take_of_length_le (by rw [HM.out]; omega), List.take_of_length_le (by rw [HN.out]; omega)] at h1)
      go_wp2
      go_ret
      exact RO.bool (b := true) HE.out.symm _

set_option maxHeartbeats 400000 in
theorem s_rowOf {s : List (List Int)} {p : List Int} {a a' : Option Addr} {c c' lo hi lo' hi' n : Nat} {w : World} (hs : RII w lo' hi' a' s) (hB' : hi' ≤ w.heap.size) (hp : RI w lo hi a p) (hB : hi ≤ w.heap.size) (hl : s.length ≤ 1048576) (hr : ∀ r ∈ s, r.length = n) (hpl : p.length = n) (hn : n ≤ 1048576) (hpc : p.length ≤ c) :
    Calls Try.prog 210 #[.slice a' s.length c', .slice a p.length c] w (NewBo w (rowB s p)) := by
  have HR := Lib.hid hr
  have HP := Lib.hid hpl
  have hbA := (Below.refl w.heap.size w).alloc (Nat.le_refl _) (.cells #[.slice a p.length c] 23)
  have hpp : RII (w.alloc (.cells #[.slice a p.length c] 23)) 0 (w.alloc (.cells #[.slice a p.length c] 23)).heap.size (some ⟨w.heap.size, 0, none⟩) [p] := by
    intro k hk
    have hk0 : k = 0 := by simp at hk; exact hk
    subst hk0
    refine ⟨w.heap.size, 0, a, c, p, rfl, Nat.zero_le _, by simp, rfl, ?_, (hp.below hbA hB).wide (Nat.zero_le _) (by simp; omega), hpc⟩
    exact cell_of_row _ _ 0 _ _ _ (heap_alloc_new w _)
  have HC := Lib.hid (s_results (c := c') (c' := 1) (n := n) (hs.below hbA hB') (by simp; omega) hpp (Nat.le_refl _) hl (by simp) HR.out (fun q hq => by rw [List.mem_singleton.1 hq]; exact HP.out) hn)
  have HRW := Lib.hid (row_one s p)
  clear hr hpl hpp hs hp
  go_enter Try.func210, Try.ntmps210
  go_wp2_with fail
  refine HC.out.mono ?_
  rintro e w2 ⟨a2, c2, rfl, h2, hb2⟩
  go_wp2
  go_ret
  rw [HRW.out] at h2
  refine ⟨a2, c2, by rw [rowB, List.length_map]; rfl, ⟨?_, ?_⟩, hbA.trans (hb2.mono (by simp))⟩
  · exact h2.ob.wide (by simp) (Nat.le_refl _)
  · exact h2.cap

/- Walks: IsLocating, by both sides; a map of numbers that were seen. -/
open Go.RowKit

theorem undUint0 : Try.prog.underlying 134 = some (.int .u64) := by kernel_rfl
theorem keyedU : Maps.Keyed Try.prog 134 := Maps.int_keyed undUint0
theorem undMapU : Try.prog.underlying 160 = some (.map 134 4) := by kernel_rfl
theorem keyU_eq {x : Nat} (h : x < 2 ^ 64) : keyOf Try.prog 134 (.int .u64 (x : Int)) = some (.int .u64 (x : Int)) :=
  Maps.keyOf_int_mk undUint0 (by simp [Lit.wf, IntKind.min, IntKind.max, IntKind.bits, IntKind.signed]; omega)
theorem run_makeMapU (wx : World) : (Instr.makeMap 160 none).run Try.prog wx = .ok (.map (some wx.heap.size)) (wx.alloc (.map #[] 0)) := by
  simp [Instr.makeMap, Result.andThen]
/-- block b is a map of at most n entries: those numbers are in it of which S holds -/
def Mu (w : World) (b n : Nat) (S : Nat → Bool) : Prop :=
  ∃ D : DataW Unit, w.ownsMap Try.prog 134 (plainElem Try.prog 4) b n D ∧ ∀ x : Nat, x < 2 ^ 64 → D.atKey (.int .u64 (x : Int)) (.lit (.bool false)) = .lit (.bool (S x))
theorem Mu.made (w : World) : Mu (w.alloc (.map #[] 0)) w.heap.size 0 (fun _ => false) := ⟨_, World.ownsMap_made w _ _ _, fun _ _ => rfl⟩
theorem Mu.same {w w' : World} {b n : Nat} {S : Nat → Bool} (h : Mu w b n S) (hb : w'.heap[b]? = w.heap[b]?) : Mu w' b n S := by
  obtain ⟨D, ⟨es, clock, h1, r⟩, h2⟩ := h
  exact ⟨D, ⟨es, clock, hb.trans h1, r⟩, h2⟩
theorem Mu.congr {w : World} {b n : Nat} {S S' : Nat → Bool} (h : Mu w b n S) (e : ∀ x, S x = S' x) : Mu w b n S' := by
  obtain ⟨D, h1, h2⟩ := h
  exact ⟨D, h1, fun p hp => by rw [h2 p hp, e p]⟩

set_option maxRecDepth 100000 in
/-- a number is put in -/
theorem wpList_putU {w : World} {ops : Array Oper} {rest : List Oper} {o : Oper} {a : Act} {Q : Exit → Act → World → Prop} (hg : o.guard = none) (m x v : Operand) (hop : o.op = Op.mapUpdate 160 m x v)
    (b n : Nat) {S : Nat → Bool} (hm : a.eval m = .map (some b)) (hown : Mu w b n S) (hn : n ≤ 1048576) (p : Nat) (hp : p < 2 ^ 64) (hx : a.eval x = .int .u64 (p : Int)) (hv : a.eval v = .bool true)
    (hK : ∀ w', Mu w' b (n + 1) (fun q => q == p || S q) → Upd b (b + 1) w w' → wpList Try.prog ops Q rest (a.put o.dst undef) w') : wpList Try.prog ops Q (o :: rest) a w := by
  obtain ⟨D, h1, h2⟩ := hown
  refine wpList_mapUpdate_own _ hg m x v 160 hop 134 4 keyedU undMapU _ b n D hm h1 (by unfold maxLen; omega) _ _ (.int .u64 (p : Int)) hx hv (keyU_eq hp) _ [] (plainElem_bool undBool0 true) ?_
  intro w' hw hgr
  refine hK w' ⟨_, hw, fun q hq => ?_⟩ (.ofGrown hgr)
  by_cases e : q = p
  · subst e
    rw [Maps.atKey_put_same h1.isMap (keyedU.key (keyU_eq hq))]
    simp
  · rw [Maps.atKey_put_other (by intro h; apply e; injection h with _ h; exact_mod_cast h), h2 q hq]
    have e2 : (q == p) = false := by rw [beq_eq_false_iff_ne]; exact e
    simp [e2]

set_option maxRecDepth 100000 in
/-- .. is looked up -/
theorem wpList_lookU {w : World} {ops : Array Oper} {rest : List Oper} {o : Oper} {a : Act} {Q : Exit → Act → World → Prop} (hg : o.guard = none) (m x : Operand) (hop : o.op = Op.lookup 160 m x false)
    (b n : Nat) {S : Nat → Bool} (hm : a.eval m = .map (some b)) (hown : Mu w b n S) (p : Nat) (hp : p < 2 ^ 64) (hx : a.eval x = .int .u64 (p : Int)) (y : Bool) (hy : S p = y)
    (hK : wpList Try.prog ops Q rest (a.put o.dst (.bool y)) w) : wpList Try.prog ops Q (o :: rest) a w := by
  obtain ⟨D, h1, h2⟩ := hown
  obtain ⟨v, pl, hrun, hv⟩ := h1.lookup keyedU undMapU (zeroBool w) (plainElem_bool undBool0 false) (keyU_eq hp)
  rw [h2 p hp, hy] at hv
  have hv' := plainElem_bool_inv hv
  subst hv'
  refine wpList_plain hg fun K' hK' => ?_
  unfold Oper.wp
  simp [execOp, hop, hm, hx, hrun, Result.andThen]
  exact hK' _ _ hK

theorem il_no {m : List Int} {s : List (List Int)} {t : Int} (h : okC m s t = false) : ilB m s t = false := by unfold ilB; rw [h]; rfl
theorem il_yes {m : List Int} {s : List (List Int)} {t : Int} (h : okC m s t = true) : ilB m s t = ilP m s t := by unfold ilB; rw [h]; rfl
/-- the numbers of the first k patterns -/
def snU (s ps : List (List Int)) (k x : Nat) : Bool := (ps.take k).any fun p => bitN (rowB s p) == x
theorem snU_zero (s ps : List (List Int)) (x : Nat) : snU s ps 0 x = false := by simp [snU]
theorem snU_step {s ps : List (List Int)} {k : Nat} {p : List Int} (h : ps[k]? = some p) (x : Nat) : (x == bitN (rowB s p) || snU s ps k x) = snU s ps (k + 1) x := by
  unfold snU
  rw [take_snoc h, List.any_append, Bool.or_comm]
  congr 1
  simp only [List.any_cons, List.any_nil, Bool.or_false]
  rw [Bool.eq_iff_iff, beq_iff_eq, beq_iff_eq]; exact eq_comm
theorem row_inj {s : List (List Int)} {p q : List Int} (h : bitN (rowB s p) = bitN (rowB s q)) : rowB s p = rowB s q := bitN_inj (by simp [rowB]) h
theorem sn_bad {m : List Int} {s ps : List (List Int)} {t : Int} {k : Nat} {p : List Int} (hps : patS m [] t = ps) (h : ps[k]? = some p) (hs : snU s ps k (bitN (rowB s p)) = true) : ilP m s t = false := by
  cases hb : ilP m s t
  · rfl
  · obtain ⟨q, hq, he⟩ := List.any_eq_true.1 hs
    obtain ⟨j, hj⟩ := List.mem_iff_getElem?.1 hq
    have hjk : j < k := by
      have := lt_of_at hj
      simp at this; omega
    rw [List.getElem?_take_of_lt hjk] at hj
    have := ilP_iff.1 hb k j p q (by rw [hps]; exact h) (by rw [hps]; exact hj) hjk
    exact absurd (row_inj (by simpa using he)).symm this
theorem sn_good {s ps : List (List Int)} {k : Nat} {p : List Int} (_h : ps[k]? = some p) (hs : snU s ps k (bitN (rowB s p)) = false) : ∀ (j : Nat) (q : List Int), j < k → ps[j]? = some q → rowB s p ≠ rowB s q := by
  intro j q hj hq he
  have : snU s ps k (bitN (rowB s p)) = true := by
    refine List.any_eq_true.2 ⟨q, List.mem_iff_getElem?.2 ⟨j, by rw [List.getElem?_take_of_lt hj]; exact hq⟩, ?_⟩
    rw [he]; simp
  rw [hs] at this; cases this

set_option maxRecDepth 100000 in
set_option maxHeartbeats 4000000 in
theorem i_IsLocating {m : List Int} {s : List (List Int)} {a a' : Option Addr} {c c' lo hi lo' hi' : Nat} {w : World} {t : Int} (hm : RI w lo hi a m) (hlm : m.length ≤ 9223372036854775807) (hs : RII w lo' hi' a' s) (hls : s.length ≤ 9223372036854775807) (hg : ∀ r ∈ s, r.length ≤ 9223372036854775807) (_ht0 : -9223372036854775808 ≤ t) (_ht1 : t ≤ 9223372036854775807) (hB : hi ≤ w.heap.size) (hB' : hi' ≤ w.heap.size) :
    Calls Try.prog 105 #[.slice a m.length c, .slice a' s.length c', .int .i64 t] w (NewV w (.bool (ilB m s t))) := by
  have HG := Lib.hid hg; clear hg
  cases hc : okC m s t
  · have HE : Hid (ilB m s t = false) := il_no hc
    have HC := Lib.hid hc; clear hc
    go_enter Try.func105, Try.ntmps105
    go_wp2_with fail
    refine (i_canCover hm hlm hs hls HG.out).mono ?_
    rintro e w1 ⟨rfl, hd⟩
    rw [HC.out]
    go_wp2
    go_ret
    exact ⟨by rw [HE.out]; rfl, Dr.below hd _⟩
  have HE : Hid (ilB m s t = ilP m s t) := il_yes hc
  have hp := okC_parts hc
  have HR := Lib.hid hp.2.2.2
  have hsl := hp.2.2.1
  have ht := hp.2.1
  have HOK := Lib.hid hp.1
  have HC := Lib.hid hc; clear hc hp
  have HPL := Lib.hid (patS_len (head := []) HOK.out t)
  have HRL : Hid (∀ p, bitN (rowB s p) < 2 ^ 64) := row_lt (by omega)
  have hmm := fun (wx : World) => run_makeMapU wx
  go_enter Try.func105, Try.ntmps105
  go_wp2_with fail
  refine (i_canCover hm hlm hs hls HG.out).mono ?_
  rintro e w1 ⟨rfl, hd⟩
  rw [HC.out]
  have hd : Dr w w1 := hd
  have hz1 := Dr.le hd
  have hmu := Mu.made w1
  have hbA := (Below.refl w1.heap.size w1).alloc (Nat.le_refl _) (.map #[] 0)
  have hm1 := (hm.dr hd).below hbA (by omega)
  have hs1 := (hs.dr hd).below hbA (by omega)
  clear hm hs
  go_wp2_with fail
  refine (i_indicesOf HOK.out hm1 (by simp; omega) hs1 (by simp; omega) (by omega) HR.out ht.1 ht.2).mono ?_
  rintro e w2 ⟨v2, rfl, ho2, hb2⟩
  obtain ⟨av, cv, hv2, hat⟩ := ho2.at
  subst hv2
  have HAT := Lib.hid hat
  have hz2 := hb2.size
  simp only [World.size_alloc] at hz2
  have hbf : Below w.heap.size w w2 := (Dr.below hd _).trans ((hbA.trans (hb2.mono (by simp))).mono (by omega))
  have hmu2 : Mu w2 w1.heap.size 0 (fun _ => false) := hmu.same (hb2.block w1.heap.size (by simp))
  obtain ⟨ps, hps⟩ : ∃ ps, patS m [] t = ps := ⟨_, rfl⟩
  have HPS := Lib.hid hps
  rw [hps] at HAT HPL ⊢
  obtain ⟨N, hN⟩ : ∃ N, ps.length = N := ⟨_, rfl⟩
  have HN := Lib.hid hN
  have hNl : N ≤ 1024 := by have := HPL.out; omega
  rw [hN] at HAT ⊢
  simp only [World.size_alloc] at HAT
  clear hN hps hat ho2 hm1 hs1 hd hb2 hmu hbA
  go_wp2
  go_loopw [21] (fun i wr => ∃ k : Nat, k ≤ N ∧ i = .int .i64 k ∧ Mu wr w1.heap.size k (snU s ps k) ∧ Hid (∀ (i j : Nat) (p q : List Int), i < k → j < i → ps[i]? = some p → ps[j]? = some q → rowB s p ≠ rowB s q) ∧ Upd w1.heap.size (w1.heap.size + 1) w2 wr) (fun i _ => N - (intOf i).toNat)
  case atStart => exact ⟨0, Nat.zero_le _, rfl, hmu2.congr fun x => (snU_zero s ps x).symm, fun i j p q h => absurd h (by omega), Upd.refl _ _ _⟩
  case round =>
    clear hmu2
    obtain ⟨k, hk, rfl, hmu, HI, hU⟩ := hrel
    by_cases hlt : k < N
    · obtain ⟨p, hx⟩ := at_of_lt (show k < ps.length by have := HN.out; omega)
      obtain ⟨g, hg1, hg2, hidx, hc⟩ := HAT.out k _ (ixV_at hx)
      have hc1 : wr.cell? ⟨g, k, none⟩ = some (.int .u64 (bitN (rowB s p) : Nat)) := (World.cell?_of_block (w := w2) (hU.block g hg2 (by omega))).trans hc
      have HX := Lib.hid hx
      have hxl := HRL.out p
      have HBAD : Hid (snU s ps k (bitN (rowB s p)) = true → ilP m s t = false) := fun h => sn_bad HPS.out hx h
      have HGOOD : Hid (snU s ps k (bitN (rowB s p)) = false → ∀ (j : Nat) (q : List Int), j < k → ps[j]? = some q → rowB s p ≠ rowB s q) := fun h => sn_good hx h
      have HST := Lib.hid (snU_step (s := s) hx)
      obtain ⟨X, hX⟩ : ∃ X : Nat, bitN (rowB s p) = X := ⟨_, rfl⟩
      rw [hX] at hc1 hxl HBAD HGOOD HST
      clear hx hc hX
      cases hsn : snU s ps k X
      · have HI2 : Hid (∀ (i j : Nat) (p q : List Int), i < k + 1 → j < i → ps[i]? = some p → ps[j]? = some q → rowB s p ≠ rowB s q) := by
          show ∀ (i j : Nat), _
          intro i j p' q' hi hj e1 e2
          by_cases hik : i = k
          · subst hik
            rw [HX.out] at e1; cases e1
            exact HGOOD.out hsn j q' hj e2
          · exact HI.out i j p' q' (by omega) hj e1 e2
        clear HI HGOOD HBAD
        go_wp2_with (first
          | (at_lookup; refine wpList_lookU rfl _ _ rfl w1.heap.size k rfl hmu X hxl rfl false hsn ?_)
          | (at_mapUpdate; refine wpList_putU rfl _ _ _ rfl w1.heap.size k rfl hmu (by omega) X hxl rfl rfl ?_; intro w5 hmu5 hu5)
          | go_in)
        have HMU : Hid (Mu w5 w1.heap.size (k + 1) (snU s ps (k + 1))) := hmu5.congr fun x => HST.out x
        have hU5 := hU.trans hu5
        go_roundw
        case rel => exact ⟨k + 1, by omega, by go_num, HMU.out, HI2, hU5⟩
        case measure => simp [intOf]; omega
      · have HB := Lib.hid (HBAD.out hsn)
        clear HI HGOOD HBAD
        go_wp2_with (first
          | (at_lookup; refine wpList_lookU rfl _ _ rfl w1.heap.size k rfl hmu X hxl rfl true hsn ?_)
          | go_in)
        go_ret
        refine ⟨by rw [HE.out, HB.out]; rfl, ?_⟩
        have hz0 := hbf.size
        exact ⟨hU.os.trans hbf.os, hU.tape.trans hbf.tape, hU.output.trans hbf.output, Nat.le_trans hbf.size hU.size, fun j hj => (hU.block j (by omega) (by omega)).trans (hbf.block j hj)⟩
    · have HT : Hid (ilB m s t = true) := by
        show _ = _
        rw [HE.out]
        exact ilP_iff.2 fun i j p q h1 h2 h3 => HI.out i j p q (by rw [HPS.out] at h1; have := lt_of_at h1; have := HN.out; omega) h3 (by rw [← HPS.out]; exact h1) (by rw [← HPS.out]; exact h2)
      go_wp2
      go_ret
      refine ⟨by rw [HT.out]; rfl, ?_⟩
      have hz0 := hbf.size
      exact ⟨hU.os.trans hbf.os, hU.tape.trans hbf.tape, hU.output.trans hbf.output, Nat.le_trans hbf.size hU.size, fun j hj => (hU.block j (by omega) (by omega)).trans (hbf.block j hj)⟩

set_option maxRecDepth 100000 in
set_option maxHeartbeats 8000000 in
theorem s_IsLocating {m : List Int} {s : List (List Int)} {a a' : Option Addr} {c c' lo hi lo' hi' : Nat} {w : World} {t : Int} (hm : RI w lo hi a m) (hlm : m.length ≤ 9223372036854775807) (hs : RII w lo' hi' a' s) (hls : s.length ≤ 9223372036854775807) (hg : ∀ r ∈ s, r.length ≤ 9223372036854775807) (_ht0 : -9223372036854775808 ≤ t) (_ht1 : t ≤ 9223372036854775807) (hB : hi ≤ w.heap.size) (hB' : hi' ≤ w.heap.size) :
    Calls Try.prog 106 #[.slice a m.length c, .slice a' s.length c', .int .i64 t] w (NewV w (.bool (ilB m s t))) := by
  have HG := Lib.hid hg; clear hg
  cases hc : okC m s t
  · have HE : Hid (ilB m s t = false) := il_no hc
    have HC := Lib.hid hc; clear hc
    go_enter Try.func106, Try.ntmps106
    go_wp2_with fail
    refine (s_good hm hlm hs hls HG.out).mono ?_
    rintro e w1 ⟨rfl, hd⟩
    rw [HC.out]
    go_wp2
    go_ret
    exact ⟨by rw [HE.out]; rfl, Dr.below hd _⟩
  have HE : Hid (ilB m s t = ilP m s t) := il_yes hc
  have hp := okC_parts hc
  have HLN := Lib.hid (patS_len (head := []) hp.1 t)
  have HR := Lib.hid hp.2.2.2
  have hsl := hp.2.2.1
  have ht := hp.2.1
  have HOK := Lib.hid hp.1
  have hm5 := okM_len hp.1
  have HC := Lib.hid hc; clear hc hp
  go_enter Try.func106, Try.ntmps106
  go_wp2_with fail
  refine (s_good hm hlm hs hls HG.out).mono ?_
  rintro e w1 ⟨rfl, hd⟩
  rw [HC.out]
  have hz1 := Dr.le hd
  have hm1 := hm.dr hd
  have hs1 := hs.dr hd
  have hbA := (Below.refl w1.heap.size w1).alloc (Nat.le_refl _) (.cells #[] 3)
  go_wp2_with fail
  refine (s_patterns HOK.out m.length [] a ⟨w1.heap.size, 0, none⟩ c 0 lo hi 0 0 _ t (by simp) (hm1.below hbA (by omega)) (by simp; omega) (RI.nil _ _ _ _) (by simp) (by omega) (by omega)).mono ?_
  rintro e w2 ⟨ad, cc, rfl, h2, hb2⟩
  obtain ⟨ps, hps⟩ : ∃ ps, patS m [] t = ps := ⟨_, rfl⟩
  have HPS := Lib.hid hps
  have HPL : Hid (∀ p ∈ ps, p.length = m.length) := by show ∀ p ∈ ps, _; rw [← hps]; exact fun p hp => patS_row p hp
  rw [hps] at h2 HLN
  rw [hps]
  clear hps
  have hsz2 := hb2.size
  simp only [World.size_alloc] at hsz2
  have hb12 := hbA.trans (hb2.mono (by simp))
  have hBf := (Dr.below hd w.heap.size).trans (hb12.mono hz1.2)
  have hs2 : RII w2 0 w2.heap.size a' s := (hs1.below hb12 (by omega)).wide (Nat.zero_le _) (by omega)
  have hr2 : RII w2 0 w2.heap.size (some ad) ps := h2.rii.wide (Nat.zero_le _) (Nat.le_refl _)
  obtain ⟨M, hM⟩ : ∃ M, ps.length = M := ⟨_, rfl⟩
  have HNN := Lib.hid hM
  have hMl : M ≤ 1024 := by have := HLN.out; omega
  obtain ⟨L, hL⟩ : ∃ L, s.length = L := ⟨_, rfl⟩
  have HLL := Lib.hid hL
  rw [hM, hL]
  have hLl : L ≤ 20 := by omega
  clear hM h2 hb2 hbA hb12 hm hs hm1 hs1 hd hL hsl hls
  go_wp2
  go_loopw [8, 9] (fun i _ wr => ∃ k : Nat, k ≤ M ∧ i = .int .i64 k ∧ Hid (∀ (i j : Nat) (p q : List Int), i < k → j < i → ps[i]? = some p → ps[j]? = some q → rowB s p ≠ rowB s q) ∧ Below w2.heap.size w2 wr) (fun i _ _ => M - (intOf i).toNat)
  case atStart => exact ⟨0, Nat.zero_le _, rfl, fun x _ _ _ hx => absurd hx (by omega), Below.refl _ _⟩
  case round =>
    obtain ⟨k, hk, rfl, hI, hd⟩ := hrel
    have hz2 := hd.size
    by_cases hlt : k < M
    · obtain ⟨wo, hwo⟩ : ∃ wo, wo = wr := ⟨_, rfl⟩
      subst hwo
      go_wp2
      go_loopw [9] (fun j wr => ∃ y : Nat, y ≤ k ∧ j = .int .i64 y ∧ Hid (∀ (j : Nat) (p q : List Int), j < y → ps[k]? = some p → ps[j]? = some q → rowB s p ≠ rowB s q) ∧ Below wo.heap.size wo wr) (fun j _ => k - (intOf j).toNat)
      case atStart => exact ⟨0, Nat.zero_le _, rfl, fun y' _ _ hy => absurd hy (by omega), Below.refl _ _⟩
      case round =>
        obtain ⟨y, hy, rfl, hJ, hd2⟩ := hrel
        have D2 := hd.trans (hd2.mono hz2)
        have hz3 := hd2.size
        by_cases hyk : y < k
        · obtain ⟨b1, o1, a1, c1, p, ha1, _, hb1h, hc1, hp1, hx1, hcp1⟩ := (hr2.below D2 (Nat.le_refl _)).atc (show k < ps.length by have := HNN.out; omega)
          obtain ⟨b2, o2, a2, c2, q, ha2, _, hb2h, hc2, hp2, hx2, hcp2⟩ := (hr2.below D2 (Nat.le_refl _)).atc (show y < ps.length by have := HNN.out; omega)
          have hi1 := idxII ha1 hlt cc
          have hi2 := idxII ha2 (show y < M by omega) cc
          have hpl := HPL.out p (List.mem_of_getElem? hx1.out)
          have hql := HPL.out q (List.mem_of_getElem? hx2.out)
          have hss := hs2.below D2 (Nat.le_refl _)
          have HJ2 : Hid (rowB s p ≠ rowB s q → ∀ (j : Nat) (p q : List Int), j < y + 1 → ps[k]? = some p → ps[j]? = some q → rowB s p ≠ rowB s q) := by
            show _ → ∀ (j : Nat), _
            intro h y' p' q' hy' e1 e2
            by_cases hyy : y' = y
            · subst hyy
              rw [hx1.out] at e1; rw [hx2.out] at e2
              cases e1; cases e2
              exact h
            · exact hJ.out y' p' q' (by omega) e1 e2
          have HBAD : Hid (rowB s p = rowB s q → ilB m s t = false) := by
            show _ → _
            intro h1
            rw [HE.out]
            cases hb : ilP m s t
            · rfl
            · exact absurd h1 (ilP_iff.1 hb k y p q (by rw [HPS.out]; exact hx1.out) (by rw [HPS.out]; exact hx2.out) hyk)
          have HRP : Hid (∀ w', Below wr.heap.size wr w' → Calls Try.prog 210 #[.slice a' L c', .slice a1 p.length c1] w' (NewBo w' (rowB s p))) := fun w' hb => by
            have := s_rowOf (c := c1) (c' := c') (w := w') (n := m.length) (hss.below hb (by omega)) (by have := hb.size; omega) (hp1.below hb (by omega)) (by have := hb.size; omega) (by have := HLL.out; omega) HR.out hpl (by omega) hcp1
            rwa [HLL.out] at this
          have HRQ : Hid (∀ w', Below wr.heap.size wr w' → Calls Try.prog 210 #[.slice a' L c', .slice a2 q.length c2] w' (NewBo w' (rowB s q))) := fun w' hb => by
            have := s_rowOf (c := c2) (c' := c') (w := w') (n := m.length) (hss.below hb (by omega)) (by have := hb.size; omega) (hp2.below hb (by omega)) (by have := hb.size; omega) (by have := HLL.out; omega) HR.out hql (by omega) hcp2
            rwa [HLL.out] at this
          have HRL : Hid (∀ p, (rowB s p).length = L) := fun p => by unfold rowB; rw [List.length_map]; exact HLL.out
          have HS : Hid (∀ w', Below wr.heap.size wr w' → w'.cell? ⟨b1, o1 + k, none⟩ = some (.slice a1 p.length c1) ∧ w'.cell? ⟨b2, o2 + y, none⟩ = some (.slice a2 q.length c2)) := fun w' hb =>
            ⟨(hb.cell (p := ⟨b1, o1 + k, none⟩) (by show b1 < _; omega)).trans hc1, (hb.cell (p := ⟨b2, o2 + y, none⟩) (by show b2 < _; omega)).trans hc2⟩
          have hq1 : Below wr.heap.size wr wr := Below.refl _ _
          obtain ⟨X, hX⟩ : ∃ X, eqBo (rowB s p) (rowB s q) = X := ⟨_, rfl⟩
          have HX := Lib.hid hX
          clear hss hp1 hp2 ha1 ha2 hpl hql hx1 hx2 hJ hX
          go_wp2_with fail
          go_region_held3 (fun w' => w'.cell? ⟨b1, o1 + k, none⟩ = some (.slice a1 p.length c1) ∧ w'.cell? ⟨b2, o2 + y, none⟩ = some (.slice a2 q.length c2))
            (first | exact HS.out _ (by first | exact hqe | exact hqpq | exact hqqp | exact hqp | exact hqq | exact hq1.drew | exact hq1) | go_keep) ((first
            | (go_at_call 210; refine (HRP.out _ (by exact hqq)).mono ?_; rintro e wp ⟨ap, cp, rfl, hop, hbp⟩; have hqqp : Below wr.heap.size wr wp := hqq.trans (hbp.mono hqq.size); have hrq := hoq.below hbp (Nat.le_refl _); have hrp := hop)
            | (go_at_call 210; refine (HRQ.out _ (by exact hqp)).mono ?_; rintro e wq ⟨aq, cq, rfl, hoq, hbq⟩; have hqpq : Below wr.heap.size wr wq := hqp.trans (hbq.mono hqp.size); have hrp := hop.below hbq (Nat.le_refl _); have hrq := hoq)
            | (go_at_call 210; refine (HRP.out _ (by first | exact hq1.drew | exact hq1)).mono ?_; rintro e wp ⟨ap, cp, rfl, hop, hbp⟩; have hqp : Below wr.heap.size wr wp := (by first | exact hq1.drew.trans hbp | exact hq1.trans hbp))
            | (go_at_call 210; refine (HRQ.out _ (by first | exact hq1.drew | exact hq1)).mono ?_; rintro e wq ⟨aq, cq, rfl, hoq, hbq⟩; have hqq : Below wr.heap.size wr wq := (by first | exact hq1.drew.trans hbq | exact hq1.trans hbq))
            | (go_at_call 209; rw [HRL.out, HRL.out]; refine (s_equal hrp.ri hrq.ri (HRL.out _) (HRL.out _) (by omega)).mono ?_; rintro e we ⟨rfl, hde⟩; rw [HX.out]; have hqe : Below wr.heap.size wr we := (by first | exact hqpq.trans (Dr.below hde _) | exact hqqp.trans (Dr.below hde _)))
            | fail))
          all_goals
            have hd5 : Below wo.heap.size wo we := hd2.trans (hqe.mono hz3)
            have D5 : Below w2.heap.size w2 we := hd.trans (hd5.mono hz2)
            cases X
            · have HJ3 := Lib.hid (HJ2.out fun h => by have := HX.out; rw [eqBo_true.2 h] at this; cases this)
              clear HJ2 HBAD
              go_wp2
              go_roundw
              case rel => exact ⟨y + 1, by omega, by go_num, HJ3, hd5⟩
              case measure => simp [intOf]; omega
            · have HB2 := Lib.hid (HBAD.out (eqBo_true.1 HX.out))
              go_wp2
              go_ret
              exact ⟨by rw [HB2.out]; rfl, hBf.trans (D5.mono hBf.size)⟩
        · have HI2 : Hid (∀ (i j : Nat) (p q : List Int), i < k + 1 → j < i → ps[i]? = some p → ps[j]? = some q → rowB s p ≠ rowB s q) := by
            show ∀ (i j : Nat) p q, _
            intro x y' p q hx hyx e1 e2
            by_cases hxk : x = k
            · subst hxk; exact hJ.out y' p q (by omega) e1 e2
            · exact hI.out x y' p q (by omega) hyx e1 e2
          clear hI hJ
          go_wp2
          go_roundw
          case rel => exact ⟨k + 1, by omega, by go_num, HI2, D2⟩
          case measure => simp [intOf]; omega
    · have HBT : Hid (ilB m s t = true) := by
        show _ = _
        rw [HE.out]
        exact ilP_iff.2 fun i j p q h1 h2 h3 => hI.out i j p q (by rw [HPS.out] at h1; have := lt_of_at h1; have := HNN.out; omega) h3 (by rw [← HPS.out]; exact h1) (by rw [← HPS.out]; exact h2)
      go_wp2
      go_ret
      exact ⟨by rw [HBT.out]; rfl, hBf.trans (hd.mono hBf.size)⟩

end Go.Proofs.Ytehoagbpgahopaa
