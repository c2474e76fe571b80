/- The reader of a law's code: where it lies, and what it picks. -/
import Derived.Laws.BitsAllLaws
import Derived.Test.YtpioldgpfpmjiaaGreatDoorOwn
namespace Go.Proofs.YtpioldgpfpmjiaaGreatDoor
open Go.RowKit

theorem i64_xor (a b : Nat) (ha : a < 4611686018427387904) (hb : b < 4611686018427387904) : bits .xor .i64 (a : Int) (b : Int) = ((a ^^^ b : Nat) : Int) ∧ (a ^^^ b) < 4611686018427387904 := by
  have hx : a ^^^ b < 2 ^ 62 := Nat.xor_lt_two_pow (by omega) (by omega)
  refine ⟨?_, by omega⟩
  show IntKind.i64.wrap ((BitVec.ofInt 64 (a : Int) ^^^ BitVec.ofInt 64 (b : Int)).toNat : Int) = _
  rw [BitVec.toNat_xor, ofInt_u64 a (by omega), ofInt_u64 b (by omega)]
  simp [IntKind.wrap, IntKind.bits, IntKind.signed]
  omega

theorem undY : Tryz.prog.underlying 28 = some (.slice 5) := by kernel_rfl
theorem undU8 : Tryz.prog.underlying 5 = some (.int .u8) := by kernel_rfl
theorem sizeU8 (w : World) : (sizeOf 5).run Tryz.prog w = .ok 1 w := by kernel_rfl
theorem idxY {a : Option Addr} {len k b o : Nat} (ha : a = some ⟨b, o, none⟩) (hk : k < len) (cap : Nat) (wx : World) :
    (Instr.indexAt 28 (.slice a len cap) (.int .i64 (k : Int))).run Tryz.prog wx = .ok (.pointer (some ⟨b, o + k, none⟩)) wx := idx_run undY sizeU8 ha hk cap wx

/-- a slice of n bytes in blocks below hi -/
def RB (w : World) (hi : Nat) (a : Option Addr) (n : Nat) : Prop := ∀ k, k < n → ∃ (b o x : Nat), a = some ⟨b, o, none⟩ ∧ b < hi ∧ x < 256 ∧ w.cell? ⟨b, o + k, none⟩ = some (.int .u8 (x : Int))
theorem RB.same {w w' : World} {hi : Nat} {a : Option Addr} {n : Nat} (h : RB w hi a n) (hb : ∀ k, k < hi → w'.heap[k]? = w.heap[k]?) : RB w' hi a n := by
  intro k hk
  obtain ⟨b, o, x, h1, h2, h3, h4⟩ := h k hk
  exact ⟨b, o, x, h1, h2, h3, (World.cell?_of_block (w := w) (a := ⟨b, o + k, none⟩) (hb b h2)).trans h4⟩
theorem RB.less {w : World} {hi : Nat} {a : Option Addr} {n m : Nat} (h : RB w hi a n) (hm : m ≤ n) : RB w hi a m := fun k hk => h k (by omega)
/-- block b is a reader that has picked at most K numbers -/
def Rdr (w : World) (b K : Nat) : Prop := ∃ (a : Option Addr) (n c p : Nat), w.cell? ⟨b, 0, none⟩ = some (.slice a n c) ∧ w.cell? ⟨b, 1, none⟩ = some (.int .i64 (p : Int)) ∧ w.frozen? ⟨b, 1, none⟩ = false ∧ RB w b a n ∧ n ≤ 2000 ∧ p ≤ K ∧ b < w.heap.size
theorem Rdr.same {w w' : World} {b K : Nat} (h : Rdr w b K) (hb : ∀ k, k ≤ b → w'.heap[k]? = w.heap[k]?) (hs : w.heap.size ≤ w'.heap.size) : Rdr w' b K := by
  obtain ⟨a, n, c, p, h1, h2, h3, h4, h5, h6, h7⟩ := h
  exact ⟨a, n, c, p, (World.cell?_of_block (w := w) (a := ⟨b, 0, none⟩) (hb b (Nat.le_refl _))).trans h1, (World.cell?_of_block (w := w) (a := ⟨b, 1, none⟩) (hb b (Nat.le_refl _))).trans h2, (World.frozen?_of_block (w := w) (a := ⟨b, 1, none⟩) (hb b (Nat.le_refl _))).trans h3, h4.same fun k hk => hb k (by omega), h5, h6, by omega⟩
theorem Rdr.below {w w' : World} {b K B : Nat} (h : Rdr w b K) (hb : Below B w w') (hB : b < B) : Rdr w' b K := h.same (fun k hk => hb.block k (by omega)) hb.size
theorem Rdr.mono {w : World} {b K K' : Nat} (h : Rdr w b K) (hK : K ≤ K') : Rdr w b K' := by
  obtain ⟨a, n, c, p, h1, h2, h3, h4, h5, h6, h7⟩ := h
  exact ⟨a, n, c, p, h1, h2, h3, h4, h5, by omega, h7⟩
theorem Rdr.lt {w : World} {b K : Nat} (h : Rdr w b K) : b < w.heap.size := by
  obtain ⟨_, _, _, _, _, _, _, _, _, _, h7⟩ := h; exact h7
/-- the reader has picked once more -/
theorem Rdr.step {w : World} {b K p n c : Nat} {a : Option Addr} (h1 : w.cell? ⟨b, 0, none⟩ = some (.slice a n c)) (h2 : w.cell? ⟨b, 1, none⟩ = some (.int .i64 (p : Int))) (h3 : w.frozen? ⟨b, 1, none⟩ = false) (h4 : RB w b a n) (h5 : n ≤ 2000) (h6 : p ≤ K) (h7 : b < w.heap.size) :
    Rdr (w.setCell ⟨b, 1, none⟩ (.int .i64 ((p : Int) + 1))) b (K + 1) := by
  refine ⟨a, n, c, p + 1, ?_, by rw [World.cell?_setCell_same _ _ _ h2]; rfl, by rw [World.frozen?_setCell]; exact h3, h4.same fun k hk => Below.heap_setCell _ _ _ _ (by simp; omega), h5, by omega, by simp [World.setCell]; exact h7⟩
  exact (World.cell?_setCell_other _ _ _ _ (by intro he; have := congrArg Addr.off he; simp at this)).trans h1

/-- what a call of the reader leaves: a number with some property; only the reader's block has turned -/
def Pk (w : World) (b K : Nat) (Pr : Int → Prop) (e : Ending) (w' : World) : Prop := ∃ v, e = .returned (.int .i64 v) ∧ Pr v ∧ Rdr w' b K ∧ Upd b (b + 1) w w'
theorem Pk.mk {w w' : World} {b K : Nat} {Pr : Int → Prop} {v : Int} (h : Pr v) (hr : Rdr w' b K) (hu : Upd b (b + 1) w w') : Pk w b K Pr (.returned (.int .i64 v)) w' := ⟨v, rfl, h, hr, hu⟩
theorem Pk.drew {w w' : World} {b K : Nat} {Pr : Int → Prop} {v : Int} (h : Pr v) (hr : Rdr w' b K) (hu : Upd b (b + 1) w w') (n : Nat) : Pk w b K Pr (.returned (.int .i64 v)) (w'.drewN n) :=
  ⟨v, rfl, h, hr.same (fun _ _ => rfl) (Nat.le_refl _), hu.trans ⟨rfl, rfl, rfl, Nat.le_refl _, fun _ _ _ => rfl⟩⟩
/-- a number that was picked below n -/
def pkP (n v : Int) : Prop := 0 ≤ v ∧ (1 ≤ n → v < n)
theorem pkP_zero {n : Int} : pkP n 0 := ⟨Int.le_refl _, fun h => by omega⟩
theorem pkP_rem {n x : Int} (_hx : 0 ≤ x) (hn : ¬ n < 1) : pkP n (x % n) := ⟨Int.emod_nonneg _ (by omega), fun _ => Int.emod_lt_of_pos _ (by omega)⟩

/- Walks: the reader, what it picks; what is written beside it. -/
open Go.RowKit

set_option maxRecDepth 100000 in
set_option maxHeartbeats 1000000 in
theorem s_newReader {n : Nat} {a : Option Addr} {c : Nat} {w : World} (hm : RB w w.heap.size a n) (hc : n ≤ c) (hl : n ≤ 1048576) :
    Calls Tryz.prog 17 #[.slice a n c] w (fun e w' => e = .returned (.pointer (some ⟨w.heap.size, 0, none⟩)) ∧ Rdr w' w.heap.size 0 ∧ Below w.heap.size w w') := by
  have hfin : ∀ (n' c' : Nat), n' ≤ n → n' ≤ 2000 → Rdr (w.alloc (.cells #[.slice a n' c', .int .i64 0] 67)) w.heap.size 0 ∧ Below w.heap.size w (w.alloc (.cells #[.slice a n' c', .int .i64 0] 67)) := by
    intro n' c' h1 h2
    have hb := (Below.refl w.heap.size w).alloc (Nat.le_refl _) (.cells #[.slice a n' c', .int .i64 0] 67)
    have hn := heap_alloc_new w (.cells #[.slice a n' c', .int .i64 0] 67)
    refine ⟨⟨a, n', c', 0, ?_, ?_, ?_, (hm.less h1).same fun k hk => hb.block k hk, h2, Nat.le_refl _, by simp⟩, hb⟩
    · rw [cell_of_row _ w.heap.size 0 _ 67 (0, 0) hn]; rfl
    · rw [cell_of_row _ w.heap.size 1 _ 67 (0, 0) hn]; rfl
    · unfold World.frozen?
      rw [hn]
      simp
  have HF := Lib.hid hfin; clear hfin
  by_cases h2 : n ≤ 2000
  · go_enter Tryz.func17, Tryz.ntmps17
    go_wp2
    go_ret
    exact ⟨rfl, HF.out n c (Nat.le_refl _) h2⟩
  · have hsl : ∀ wx : World, (Instr.slice 28 (.slice a n c) none (some (.int .i64 2000)) none).run Tryz.prog wx = .ok (.slice a 2000 c) wx := by
      intro wx
      obtain ⟨b, o, x, ha, _⟩ := hm 0 (by omega)
      subst ha
      rw [run_slice_h (P := Tryz.prog) (w := wx) 28 (some ⟨b, o, none⟩) n c (by kernel_rfl) .i64 2000 (by omega) (by omega)]
      have hz := sizeU8 wx
      simp [show Program.elem Tryz.prog 28 = 5 by kernel_rfl, hz, Result.andThen, sliced, Addr.add]
    go_enter Tryz.func17, Tryz.ntmps17
    go_wp2
    go_ret
    exact ⟨rfl, HF.out 2000 c (by omega) (Nat.le_refl _)⟩

theorem pick_sum {x y p : Nat} {q : Int} (hx : x < 256) (hy : y < 256) (hp : p ≤ 1048576) (hq0 : 0 ≤ q) (hq1 : q ≤ p) :
    ∃ X : Nat, IntKind.i64.wrap (IntKind.i64.wrap (IntKind.i64.wrap (IntKind.i64.wrap (IntKind.i64.wrap (x : Int) * 131) + IntKind.i64.wrap (IntKind.i64.wrap (y : Int) * 1117)) + IntKind.i64.wrap ((p : Int) * 29)) + IntKind.i64.wrap (IntKind.i64.wrap q * 53)) = (X : Int) ∧ X < 4611686018427387904 := by
  refine ⟨((x : Int) * 131 + y * 1117 + p * 29 + q * 53).toNat, ?_, by omega⟩
  rw [IntWalk.i64_in (x : Int) (by omega), IntWalk.i64_in ((x : Int) * 131) (by omega), IntWalk.i64_in (y : Int) (by omega), IntWalk.i64_in ((y : Int) * 1117) (by omega), IntWalk.i64_in ((p : Int) * 29) (by omega), IntWalk.i64_in q (by omega), IntWalk.i64_in (q * 53) (by omega)]
  rw [IntWalk.i64_in ((x : Int) * 131 + y * 1117) (by omega), IntWalk.i64_in ((x : Int) * 131 + y * 1117 + p * 29) (by omega), IntWalk.i64_in _ (by omega)]
  omega

set_option maxRecDepth 100000 in
set_option maxHeartbeats 4000000 in
theorem s_pick {b K : Nat} {n : Int} {w : World} (hr : Rdr w b K) (hK : K ≤ 1048576) (h0 : -9223372036854775808 ≤ n) (h1 : n ≤ 9223372036854775807) :
    Calls Tryz.prog 24 #[.pointer (some ⟨b, 0, none⟩), .int .i64 n] w (Pk w b (K + 1) (pkP n)) := by
  obtain ⟨a, m, c, p, c0, c1, fz, hB, hm2, hp, hlt⟩ := hr
  have HR2 := Lib.hid (Rdr.step c0 c1 fz hB hm2 hp hlt)
  have HB := Lib.hid hB
  have HU : Hid (Upd b (b + 1) w (w.setCell ⟨b, 1, none⟩ (.int .i64 ((p : Int) + 1)))) := (Upd.refl b (b + 1) w).setCell (p := ⟨b, 1, none⟩) (Nat.le_refl _) (Nat.lt_succ_self _) _
  clear hB
  by_cases hn : n < 1
  · go_enter Tryz.func24, Tryz.ntmps24
    go_wp2
    go_ret
    exact Pk.mk pkP_zero HR2.out HU.out
  by_cases hm0 : m = 0
  · subst hm0
    go_enter Tryz.func24, Tryz.ntmps24
    go_wp2
    go_ret
    exact Pk.mk pkP_zero HR2.out HU.out
  have hmm : ((m : Int) == 0) = false := by rw [beq_eq_false_iff_ne]; omega
  by_cases hk : p < m
  · obtain ⟨bb, o, x, ha, hb1, hx, hcx⟩ := HB.out p hk
    have hidx := idxY ha hk c
    have hcx2 : (w.setCell ⟨b, 1, none⟩ (.int .i64 ((p : Int) + 1))).cell? ⟨bb, o + p, none⟩ = some (.int .u8 (x : Int)) := (World.cell?_of_block (w := w) (a := ⟨bb, o + p, none⟩) (Below.heap_setCell _ _ _ _ (by show bb ≠ b; omega))).trans hcx
    clear ha
    go_enter Tryz.func24, Tryz.ntmps24
    go_wp2
    go_ret
    exact Pk.mk (pkP_rem (by omega) (by omega)) HR2.out HU.out
  · have hp1 : p % m < m := Nat.mod_lt _ (by omega)
    have hp2 : (p * 7 + 3) % m < m := Nat.mod_lt _ (by omega)
    obtain ⟨bb, o, x, ha, hb1, hx, hcx⟩ := HB.out _ hp1
    obtain ⟨bb2, o2, y, ha2, hb2, hy, hcy⟩ := HB.out _ hp2
    obtain ⟨rfl, rfl⟩ : bb = bb2 ∧ o = o2 := by rw [ha] at ha2; simpa using ha2
    have hidx := idxY ha hp1 c
    have hidx2 := idxY ha hp2 c
    have ht1 : (p : Int).tmod (m : Int) = ((p % m : Nat) : Int) := by rw [Int.tmod_eq_emod_of_nonneg (by omega), Int.natCast_emod]
    have ht2 : (IntKind.i64.wrap (IntKind.i64.wrap ((p : Int) * 7) + 3)).tmod (m : Int) = (((p * 7 + 3) % m : Nat) : Int) := by rw [IntWalk.i64_in ((p : Int) * 7) (by omega), IntWalk.i64_in _ (by omega), Int.tmod_eq_emod_of_nonneg (by omega), Int.natCast_emod]; simp
    have hidxT := fun wx : World => ht1 ▸ hidx wx
    have hidxT2 := fun wx : World => ht2 ▸ hidx2 wx
    clear hidx hidx2 ht1 ht2
    have hq0 : 0 ≤ (p : Int) / (m : Int) := Int.ediv_nonneg (by omega) (by omega)
    have hq1 : (p : Int) / (m : Int) ≤ p := Int.ediv_le_self _ (by omega)
    obtain ⟨wb, hwb⟩ : ∃ x, w.setCell ⟨b, 1, none⟩ (.int .i64 ((p : Int) + 1)) = x := ⟨_, rfl⟩
    have e0 : wb.cell? ⟨b, 0, none⟩ = some (.slice a m c) := by rw [← hwb]; exact (World.cell?_setCell_other _ _ _ _ (by intro he; have := congrArg Addr.off he; simp at this)).trans c0
    have e1 : wb.cell? ⟨b, 1, none⟩ = some (.int .i64 ((p : Int) + 1)) := by rw [← hwb]; exact World.cell?_setCell_same _ _ _ c1
    have hcx2 : wb.cell? ⟨bb, o + p % m, none⟩ = some (.int .u8 (x : Int)) := by rw [← hwb]; exact (World.cell?_of_block (w := w) (a := ⟨bb, o + p % m, none⟩) (Below.heap_setCell _ _ _ _ (by show bb ≠ b; omega))).trans hcx
    have hcy2 : wb.cell? ⟨bb, o + (p * 7 + 3) % m, none⟩ = some (.int .u8 (y : Int)) := by rw [← hwb]; exact (World.cell?_of_block (w := w) (a := ⟨bb, o + (p * 7 + 3) % m, none⟩) (Below.heap_setCell _ _ _ _ (by show bb ≠ b; omega))).trans hcy
    rw [hwb] at HR2 HU
    clear ha ha2 hcx hcy
    go_enter Tryz.func24, Tryz.ntmps24
    go_wp2_with fail
    go_region_held3 (fun w' => w'.cell? ⟨b, 0, none⟩ = some (.slice a m c) ∧ w'.cell? ⟨bb, o + p % m, none⟩ = some (.int .u8 (x : Int)) ∧ w'.cell? ⟨bb, o + (p * 7 + 3) % m, none⟩ = some (.int .u8 (y : Int))) (go_keep) (fail)
    obtain ⟨X, hX, hXb⟩ := pick_sum hx hy (show p ≤ 1048576 by omega) hq0 hq1
    rw [hX]
    clear hX hq0 hq1 hidxT hidxT2
    have hxx := i64_xor X (X / 64) (by omega) (by omega)
    have hXX : bits BinOp.xor IntKind.i64 (X : Int) ((X : Int) / 64) = ((X ^^^ X / 64 : Nat) : Int) := hxx.1
    go_wp2
    go_ret
    exact Pk.mk (pkP_rem (Int.natCast_nonneg _) (by omega)) (HR2.out.same (fun _ _ => rfl) (Nat.le_refl _)) (HU.out.trans ⟨rfl, rfl, rfl, Nat.le_refl _, fun _ _ _ => rfl⟩)

set_option maxHeartbeats 1000000 in
theorem s_one {b K lo hi : Nat} {l : List Int} {a : Option Addr} {c : Nat} {w : World} (hr : Rdr w b K) (hK : K ≤ 1048576) (hl : RI w lo hi a l) (h0 : l ≠ []) (hn : l.length ≤ 1048576) (hb : hi ≤ b ∨ b < lo) (hh : hi ≤ w.heap.size) :
    Calls Tryz.prog 18 #[.pointer (some ⟨b, 0, none⟩), .slice a l.length c] w (Pk w b (K + 1) (fun v => v ∈ l)) := by
  have hlen : 1 ≤ (l.length : Int) := by cases l with | nil => exact absurd rfl h0 | cons _ _ => simp; omega
  have HL := Lib.hid hl; clear hl
  go_enter Tryz.func18, Tryz.ntmps18
  go_wp2_with fail
  refine (s_pick hr hK (by omega) (by omega)).mono ?_
  rintro e w1 ⟨v, rfl, hv, hr1, hu1⟩
  obtain ⟨k, rfl⟩ := Int.eq_ofNat_of_zero_le hv.1
  have hk := hv.2 hlen
  have hkl : k < l.length := by omega
  obtain ⟨b1, o1, x, ha, _, _, hcell, hx⟩ := (HL.out.upd hu1 hh (by omega)).at hkl
  have hidx := idxI ha hkl c
  clear ha
  go_wp2
  go_ret
  exact Pk.mk (List.mem_of_getElem? hx.out) hr1 hu1

/- Walks: models that are drawn. -/
open Go.RowKit

/-- at most N numbers, all of them small -/
def LP (N : Nat) (l : List Int) : Prop := l.length ≤ N ∧ ∀ x ∈ l, -4 ≤ x ∧ x ≤ 4
theorem LP.mono {N N' : Nat} {l : List Int} (h : LP N l) (hN : N ≤ N') : LP N' l := ⟨Nat.le_trans h.1 hN, h.2⟩
theorem LP.nil (N : Nat) : LP N [] := ⟨Nat.zero_le _, by simp⟩
theorem LP.app {N M : Nat} {l k : List Int} (h : LP N l) (h2 : LP M k) : LP (N + M) (l ++ k) := ⟨by rw [List.length_append]; have := h.1; have := h2.1; omega, fun x hx => by (rcases List.mem_append.1 hx with h3 | h3); exact h.2 x h3; exact h2.2 x h3⟩
theorem LP.snoc {N : Nat} {l : List Int} {x : Int} (h : LP N l) (hx : -4 ≤ x ∧ x ≤ 4) : LP (N + 1) (l ++ [x]) := h.app ⟨by simp, by simpa using hx⟩
theorem LP.set {N j : Nat} {l : List Int} {x : Int} (h : LP N l) (hx : -4 ≤ x ∧ x ≤ 4) : LP N (l.set j x) :=
  ⟨by rw [List.length_set]; exact h.1, fun y hy => by (rcases List.mem_or_eq_of_mem_set hy with h3 | h3); exact h.2 y h3; exact h3 ▸ hx⟩

/-- of the blocks below B only b may have turned -/
structure UpB (b B : Nat) (w w' : World) : Prop where
  os : w'.os = w.os
  tape : w'.tape = w.tape
  output : w'.output = w.output
  size : w.heap.size ≤ w'.heap.size
  block : ∀ k, k < w.heap.size → k < B → k ≠ b → w'.heap[k]? = w.heap[k]?
theorem UpB.refl (b B : Nat) (w : World) : UpB b B w w := ⟨rfl, rfl, rfl, Nat.le_refl _, fun _ _ _ _ => rfl⟩
theorem UpB.trans {b B : Nat} {w w1 w2 : World} (h : UpB b B w w1) (k : UpB b B w1 w2) : UpB b B w w2 :=
  ⟨k.os.trans h.os, k.tape.trans h.tape, k.output.trans h.output, Nat.le_trans h.size k.size, fun i hi hB hb => (k.block i (Nat.lt_of_lt_of_le hi h.size) hB hb).trans (h.block i hi hB hb)⟩
theorem UpB.upd {b B : Nat} {w w1 w2 : World} (h : UpB b B w w1) (k : Upd b (b + 1) w1 w2) : UpB b B w w2 := h.trans ⟨k.os, k.tape, k.output, k.size, fun i hi _ hb => k.block i hi (by omega)⟩
theorem UpB.below {b B B' : Nat} {w w1 w2 : World} (h : UpB b B w w1) (k : Below B' w1 w2) (hB : B ≤ B') : UpB b B w w2 := h.trans ⟨k.os, k.tape, k.output, k.size, fun i _ hi _ => k.block i (by omega)⟩
theorem UpB.set {b B : Nat} {w w1 : World} (h : UpB b B w w1) {p : Addr} (hp : B ≤ p.block) (u : Value) : UpB b B w (w1.setCell p u) :=
  h.trans ⟨rfl, rfl, rfl, by simp [World.setCell], fun k _ hk _ => Below.heap_setCell _ _ _ _ (by omega)⟩
theorem UpB.less {b B B' : Nat} {w w1 : World} (h : UpB b B w w1) (hB : B' ≤ B) : UpB b B' w w1 := ⟨h.os, h.tape, h.output, h.size, fun k h1 h2 h3 => h.block k h1 (by omega) h3⟩
theorem UpB.toBelow {b B : Nat} {w w1 : World} (h : UpB b B w w1) (hb : b ≤ B) (hw : b ≤ w.heap.size) : Below b w w1 := ⟨h.os, h.tape, h.output, h.size, fun k hk => h.block k (by omega) (by omega) (by omega)⟩
theorem RI.upB {b B lo hi : Nat} {w w1 : World} {a : Option Addr} {m : List Int} (h : RI w lo hi a m) (hu : UpB b B w w1) (h1 : hi ≤ w.heap.size) (h2 : hi ≤ B) (h3 : b < lo) : RI w1 lo hi a m := h.same fun k h4 h5 => hu.block k (by omega) (by omega) (by omega)

theorem OwnL.same {w w' : World} {B : Nat} {v : Value} {l : List Int} (h : OwnL w B v l) (hb : ∀ g, B ≤ g → g < w.heap.size → w'.heap[g]? = w.heap[g]?) : OwnL w' B v l := by
  have hlt := World.ownsRow.lt h
  obtain ⟨h1, h2⟩ := h
  refine ⟨h1, ?_⟩
  rcases h2 with h2 | ⟨g, cap, cur, rfl, hB, hg, rest⟩
  · exact .inl h2
  · exact .inr ⟨g, cap, cur, rfl, hB, by rw [hb g (hlt g rfl).1 (hlt g rfl).2]; exact hg, rest⟩
theorem OwnL.upd {w w' : World} {b B : Nat} {v : Value} {l : List Int} (h : OwnL w B v l) (hu : Upd b (b + 1) w w') (hb : b < B) : OwnL w' B v l := h.same fun g h1 h2 => hu.block g h2 (by omega)
theorem OwnL.cap {w : World} {B n c : Nat} {a : Option Addr} {l : List Int} (h : OwnL w B (.slice a n c) l) : n = l.length ∧ l.length ≤ c := by
  obtain ⟨_, h2⟩ := h
  rcases h2 with ⟨h2, h0⟩ | ⟨g, cap, cur, e, hB, hg, hn, _⟩
  · cases h2; omega
  · cases e; exact ⟨rfl, hn⟩
/-- one of its numbers is written -/
theorem OwnL.put {w : World} {B : Nat} {a : Option Addr} {n c : Nat} {l : List Int} (h : OwnL w B (.slice a n c) l) {j : Nat} (hj : j < l.length) :
    ∃ g, a = Option.some ⟨g, 0, none⟩ ∧ B ≤ g ∧ g < w.heap.size ∧ (∃ y, w.cell? ⟨g, j, none⟩ = Option.some (.int .i64 y)) ∧ w.frozen? ⟨g, j, none⟩ = false ∧ ∀ x, OwnL (w.setCell ⟨g, j, none⟩ (.int .i64 x)) B (.slice a n c) (l.set j x) := by
  have hlt := World.ownsRow.lt h
  obtain ⟨a', c', e0, hoi⟩ := h.slice
  cases e0
  obtain ⟨b1, o1, ha, h1, h2, ⟨y, hy, hcy⟩, hfr⟩ := hoi.oi j hj
  obtain ⟨h3, h4⟩ := h
  rcases h4 with ⟨h4, h0⟩ | ⟨g, cap, cur, e, hB, hg, hn, hm, hs, ht⟩
  · omega
  · cases e
    obtain ⟨rfl, rfl⟩ : g = b1 ∧ 0 = o1 := by simpa using ha
    rw [Nat.zero_add] at hcy hfr
    refine ⟨g, rfl, hB, h2, ⟨y, hcy⟩, hfr, fun x => ⟨by simp [ints], .inr ⟨g, c, cur.setIfInBounds j (.int .i64 x), by rw [List.length_set], hB, ?_, by rw [List.length_set]; exact hn, hm, by simpa using hs, ?_⟩⟩⟩
    · simp only [World.setCell, Array.getElem?_modify, if_true]
      rw [hg]; rfl
    · rw [List.length_set, Array.toList_setIfInBounds, List.take_set, ht]
      simp [ints, List.map_set]

theorem litW (w : World) (cs : Array Value) (l : List Int) (hc : cs.toList = l.map (Value.int .i64)) : RI (w.alloc (.cells cs 3)) w.heap.size (w.heap.size + 1) (some ⟨w.heap.size, 0, none⟩) l := by
  intro k hk
  obtain ⟨x, hx⟩ := at_of_lt hk
  refine ⟨w.heap.size, 0, rfl, Nat.le_refl _, Nat.lt_succ_self _, x, hx, ?_⟩
  rw [Nat.zero_add, cell_of_row _ w.heap.size k cs 3 (0, 0) (heap_alloc_new w _), ← Array.getElem?_toList, hc]
  simp [hx]

end Go.Proofs.YtpioldgpfpmjiaaGreatDoor
