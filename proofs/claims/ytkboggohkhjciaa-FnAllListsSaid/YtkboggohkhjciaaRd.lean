/- The reader of a law's code: where it lies, and what it picks. -/
import Derived.Laws.BitsAllLaws
import Derived.Test.YtkboggohkhjciaaOwn
namespace Go.Proofs.Ytkboggohkhjciaa
open Go.RowKit

theorem i64_xor (a b : Nat) (ha : a < 4611686018427387904) (hb : b < 4611686018427387904) : bits .xor .i64 (a : Int) (b : Int) = ((a ^^^ b : Nat) : Int) ∧ (a ^^^ b) < 4611686018427387904 := by
  have hx : a ^^^ b < 2 ^ 62 := Nat.xor_lt_two_pow (by omega) (by omega)
  refine ⟨?_, by omega⟩
  show IntKind.i64.wrap ((BitVec.ofInt 64 (a : Int) ^^^ BitVec.ofInt 64 (b : Int)).toNat : Int) = _
  rw [BitVec.toNat_xor, ofInt_u64 a (by omega), ofInt_u64 b (by omega)]
  simp [IntKind.wrap, IntKind.bits, IntKind.signed]
  omega

theorem undY : Try.prog.underlying 22 = some (.slice 5) := by kernel_rfl
theorem undU8 : Try.prog.underlying 5 = some (.int .u8) := by kernel_rfl
theorem sizeU8 (w : World) : (sizeOf 5).run Try.prog w = .ok 1 w := by kernel_rfl
theorem idxY {a : Option Addr} {len k b o : Nat} (ha : a = some ⟨b, o, none⟩) (hk : k < len) (cap : Nat) (wx : World) :
    (Instr.indexAt 22 (.slice a len cap) (.int .i64 (k : Int))).run Try.prog wx = .ok (.pointer (some ⟨b, o + k, none⟩)) wx := idx_run undY sizeU8 ha hk cap wx

/-- a slice of n bytes in blocks below hi -/
def RB (w : World) (hi : Nat) (a : Option Addr) (n : Nat) : Prop := ∀ k, k < n → ∃ (b o x : Nat), a = some ⟨b, o, none⟩ ∧ b < hi ∧ x < 256 ∧ w.cell? ⟨b, o + k, none⟩ = some (.int .u8 (x : Int))
theorem RB.same {w w' : World} {hi : Nat} {a : Option Addr} {n : Nat} (h : RB w hi a n) (hb : ∀ k, k < hi → w'.heap[k]? = w.heap[k]?) : RB w' hi a n := by
  intro k hk
  obtain ⟨b, o, x, h1, h2, h3, h4⟩ := h k hk
  exact ⟨b, o, x, h1, h2, h3, (World.cell?_of_block (w := w) (a := ⟨b, o + k, none⟩) (hb b h2)).trans h4⟩
theorem RB.less {w : World} {hi : Nat} {a : Option Addr} {n m : Nat} (h : RB w hi a n) (hm : m ≤ n) : RB w hi a m := fun k hk => h k (by omega)
/-- block b is a reader that has picked at most K numbers -/
def Rdr (w : World) (b K : Nat) : Prop := ∃ (a : Option Addr) (n c p : Nat), w.cell? ⟨b, 0, none⟩ = some (.slice a n c) ∧ w.cell? ⟨b, 1, none⟩ = some (.int .i64 (p : Int)) ∧ w.frozen? ⟨b, 1, none⟩ = false ∧ RB w b a n ∧ n ≤ 2000 ∧ p ≤ K ∧ b < w.heap.size
theorem Rdr.same {w w' : World} {b K : Nat} (h : Rdr w b K) (hb : ∀ k, k ≤ b → w'.heap[k]? = w.heap[k]?) (hs : w.heap.size ≤ w'.heap.size) : Rdr w' b K := by
  obtain ⟨a, n, c, p, h1, h2, h3, h4, h5, h6, h7⟩ := h
  exact ⟨a, n, c, p, (World.cell?_of_block (w := w) (a := ⟨b, 0, none⟩) (hb b (Nat.le_refl _))).trans h1, (World.cell?_of_block (w := w) (a := ⟨b, 1, none⟩) (hb b (Nat.le_refl _))).trans h2, (World.frozen?_of_block (w := w) (a := ⟨b, 1, none⟩) (hb b (Nat.le_refl _))).trans h3, h4.same fun k hk => hb k (by omega), h5, h6, by omega⟩
theorem Rdr.below {w w' : World} {b K B : Nat} (h : Rdr w b K) (hb : Below B w w') (hB : b < B) : Rdr w' b K := h.same (fun k hk => hb.block k (by omega)) hb.size
theorem Rdr.mono {w : World} {b K K' : Nat} (h : Rdr w b K) (hK : K ≤ K') : Rdr w b K' := by
  obtain ⟨a, n, c, p, h1, h2, h3, h4, h5, h6, h7⟩ := h
  exact ⟨a, n, c, p, h1, h2, h3, h4, h5, by omega, h7⟩
theorem Rdr.lt {w : World} {b K : Nat} (h : Rdr w b K) : b < w.heap.size := by
  obtain ⟨_, _, _, _, _, _, _, _, _, _, h7⟩ := h; exact h7
/-- the reader has picked once more -/
theorem Rdr.step {w : World} {b K p n c : Nat} {a : Option Addr} (h1 : w.cell? ⟨b, 0, none⟩ = some (.slice a n c)) (h2 : w.cell? ⟨b, 1, none⟩ = some (.int .i64 (p : Int))) (h3 : w.frozen? ⟨b, 1, none⟩ = false) (h4 : RB w b a n) (h5 : n ≤ 2000) (h6 : p ≤ K) (h7 : b < w.heap.size) :
    Rdr (w.setCell ⟨b, 1, none⟩ (.int .i64 ((p : Int) + 1))) b (K + 1) := by
  refine ⟨a, n, c, p + 1, ?_, by rw [World.cell?_setCell_same _ _ _ h2]; rfl, by rw [World.frozen?_setCell]; exact h3, h4.same fun k hk => Below.heap_setCell _ _ _ _ (by simp; omega), h5, by omega, by simp [World.setCell]; exact h7⟩
  exact (World.cell?_setCell_other _ _ _ _ (by intro he; have := congrArg Addr.off he; simp at this)).trans h1

/-- what a call of the reader leaves: a number with some property; only the reader's block has turned -/
def Pk (w : World) (b K : Nat) (Pr : Int → Prop) (e : Ending) (w' : World) : Prop := ∃ v, e = .returned (.int .i64 v) ∧ Pr v ∧ Rdr w' b K ∧ Upd b (b + 1) w w'
theorem Pk.mk {w w' : World} {b K : Nat} {Pr : Int → Prop} {v : Int} (h : Pr v) (hr : Rdr w' b K) (hu : Upd b (b + 1) w w') : Pk w b K Pr (.returned (.int .i64 v)) w' := ⟨v, rfl, h, hr, hu⟩
theorem Pk.drew {w w' : World} {b K : Nat} {Pr : Int → Prop} {v : Int} (h : Pr v) (hr : Rdr w' b K) (hu : Upd b (b + 1) w w') (n : Nat) : Pk w b K Pr (.returned (.int .i64 v)) (w'.drewN n) :=
  ⟨v, rfl, h, hr.same (fun _ _ => rfl) (Nat.le_refl _), hu.trans ⟨rfl, rfl, rfl, Nat.le_refl _, fun _ _ _ => rfl⟩⟩
/-- a number that was picked below n -/
def pkP (n v : Int) : Prop := 0 ≤ v ∧ (1 ≤ n → v < n)
theorem pkP_zero {n : Int} : pkP n 0 := ⟨Int.le_refl _, fun h => by omega⟩
theorem pkP_rem {n x : Int} (_hx : 0 ≤ x) (hn : ¬ n < 1) : pkP n (x % n) := ⟨Int.emod_nonneg _ (by omega), fun _ => Int.emod_lt_of_pos _ (by omega)⟩

end Go.Proofs.Ytkboggohkhjciaa
