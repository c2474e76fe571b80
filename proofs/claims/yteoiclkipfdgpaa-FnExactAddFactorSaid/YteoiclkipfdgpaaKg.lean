/- Walks: AddFactor of the program. -/
import Derived.Deep.MidRow
import Derived.Test.YteoiclkipfdgpaaKe
namespace Go.Proofs.Yteoiclkipfdgpaa
open Go.RowKit

theorem aBelowA {w w1 : World} (h : Below w.heap.size w w1) (o : Obj) : Below w.heap.size w (w1.alloc o) := h.alloc h.size o
theorem aBelowD {w w1 : World} (h : Below w.heap.size w w1) : Below w.heap.size w w1.drew := h.drew
theorem aBelowS {w0 w1 w2 : World} (h : Below w0.heap.size w0 w1) (k : Below w1.heap.size w1 w2) : Below w0.heap.size w0 w2 := h.trans (k.mono h.size)
theorem aBelowU {b : Nat} {w0 w1 w2 : World} (h : Below w0.heap.size w0 w1) (hb : w0.heap.size ≤ b) (k : Upd b (b + 1) w1 w2) : Below w0.heap.size w0 w2 :=
  h.trans ⟨k.os, k.tape, k.output, k.size, fun i hi => k.block i (by have := h.size; omega) (.inl (by omega))⟩
theorem makeLLk (K : Nat) (hK : K ≤ 20) (wx : World) : (Instr.makeSlice 23 (.int .i64 0) (.int .i64 (K : Int))).run Try.prog wx = .ok (.slice (some ⟨wx.heap.size, 0, none⟩) 0 K) (wx.alloc (.cells (madeCells #[.slice none 0 0] K) 22)) := by
  obtain ⟨inf, hinf, hz, hsz, hby⟩ := info_parts infoI
  have h := run_makeSlice (P := Try.prog) (w := wx) 23 22 inf (.slice none 0 0) undII hinf hz .i64 .i64 0 (K : Int) (by omega) (by omega) (by rw [hsz]; omega) (by rw [hby]; omega) (by omega)
  simpa [hsz, Value.cells] using h

/-- the three boxes of a test with each level -/
structure EachAt (r : List Int) (f n b : Nat) (w : World) : Prop where
  ht : w.heap[b]? = some (.cells #[.int .i64 (at5 r 0), .int .i64 (at5 r 1), .int .i64 (at5 r 2), .int .i64 (at5 r 3), .int .i64 (at5 r 4)] 50 (0, 0))
  hf : w.heap[b + 1]? = some (.cells #[.int .i64 f] 3 (0, 0))
  hn : w.heap[b + 2]? = some (.cells #[.int .i64 n] 3 (0, 0))
  hs : w.heap.size = b + 3

theorem wdB_len {n : Nat} (ps : List (List Int)) (r : List Int) (h : 1 ≤ n) : (wdB n ps r).length = r.length + 1 := wdC_row (bstL_mem _ (wdC_ne r h))

theorem i_withEach (r : List Int) (f n : Nat) (w : World) :
    Calls Try.prog 35 #[.agg #[.int .i64 (at5 r 0), .int .i64 (at5 r 1), .int .i64 (at5 r 2), .int .i64 (at5 r 3), .int .i64 (at5 r 4)], .int .i64 f, .int .i64 n] w (fun e w' => ∃ b, e = .returned (.func (.func 63) #[] #[.pointer (some ⟨b + 2, 0, none⟩), .pointer (some ⟨b, 0, none⟩), .pointer (some ⟨b + 1, 0, none⟩)]) ∧ Hid (EachAt r f n b w' ∧ w.heap.size ≤ b) ∧ Below w.heap.size w w') := by
  refine (i_withEachLevel (T := at5 r) (f := f) (n := n) (w := w)).mono ?_
  rintro e w' ⟨rfl, rfl⟩
  obtain ⟨o1, h1⟩ : ∃ o, o = Obj.cells #[.int .i64 (at5 r 0), .int .i64 (at5 r 1), .int .i64 (at5 r 2), .int .i64 (at5 r 3), .int .i64 (at5 r 4)] 50 := ⟨_, rfl⟩
  obtain ⟨o2, h2⟩ : ∃ o, o = Obj.cells #[.int .i64 f] 3 := ⟨_, rfl⟩
  obtain ⟨o3, h3⟩ : ∃ o, o = Obj.cells #[.int .i64 n] 3 := ⟨_, rfl⟩
  have e2 := heap_alloc_new (w.alloc o1) o2
  have e3 := heap_alloc_new ((w.alloc o1).alloc o2) o3
  simp only [World.size_alloc] at e2 e3
  have eb : Below w.heap.size w (((w.alloc o1).alloc o2).alloc o3) := (((Below.refl _ w).alloc (Nat.le_refl _) _).alloc (by simp) _).alloc (by simp <;> omega) _
  rw [← h1, ← h2, ← h3]
  refine ⟨w.heap.size, rfl, ⟨⟨?_, ?_, ?_, by simp⟩, Nat.le_refl _⟩, eb⟩
  · rw [← h1, Below.heap_alloc _ _ _ (by simp <;> omega), Below.heap_alloc _ _ _ (by simp)]; exact heap_alloc_new w _
  · rw [← h2, Below.heap_alloc _ _ _ (by simp <;> omega)]; exact e2
  · rw [← h3]; exact e3

/-- a box of zeros that a region has made, wherever it was made -/
def BoxZ (v : World) (q : Nat) : Prop :=
  v.heap[q]? = some (.cells #[.int .i64 ((fun _ => 0) 0), .int .i64 ((fun _ => 0) 1), .int .i64 ((fun _ => 0) 2), .int .i64 ((fun _ => 0) 3), .int .i64 ((fun _ => 0) 4)] 50 (0, 0)) ∧ (v.cell? ⟨q, 0, none⟩ = some (.int .i64 0) ∧ v.cell? ⟨q, 1, none⟩ = some (.int .i64 0) ∧ v.cell? ⟨q, 2, none⟩ = some (.int .i64 0) ∧ v.cell? ⟨q, 3, none⟩ = some (.int .i64 0) ∧ v.cell? ⟨q, 4, none⟩ = some (.int .i64 0)) ∧
  (v.frozen? ⟨q, 0, none⟩ = false ∧ v.frozen? ⟨q, 1, none⟩ = false ∧ v.frozen? ⟨q, 2, none⟩ = false ∧ v.frozen? ⟨q, 3, none⟩ = false ∧ v.frozen? ⟨q, 4, none⟩ = false)
theorem BoxZ.of {v : World} {q : Nat} (h : v.heap[q]? = some (.cells #[.int .i64 ((fun _ => 0) 0), .int .i64 ((fun _ => 0) 1), .int .i64 ((fun _ => 0) 2), .int .i64 ((fun _ => 0) 3), .int .i64 ((fun _ => 0) 4)] 50 (0, 0))) : BoxZ v q :=
  ⟨h, cells5' (P := fun _ => 0) h, frozen5 h 0, frozen5 h 1, frozen5 h 2, frozen5 h 3, frozen5 h 4⟩
theorem zbLt {v : World} {q : Nat} {o : Obj} (h : v.heap[q]? = some o) : q < v.heap.size := by
  refine Classical.byContradiction fun hn => ?_
  rw [Array.getElem?_eq_none (by omega)] at h; cases h
theorem zbA1 {v0 v1 : World} (h : Below (v0.alloc (.cells #[.int .i64 ((fun _ => 0) 0), .int .i64 ((fun _ => 0) 1), .int .i64 ((fun _ => 0) 2), .int .i64 ((fun _ => 0) 3), .int .i64 ((fun _ => 0) 4)] 50)).heap.size (v0.alloc (.cells #[.int .i64 ((fun _ => 0) 0), .int .i64 ((fun _ => 0) 1), .int .i64 ((fun _ => 0) 2), .int .i64 ((fun _ => 0) 3), .int .i64 ((fun _ => 0) 4)] 50)) v1) : Hid (v1.heap[v0.heap.size]? = some (.cells #[.int .i64 ((fun _ => 0) 0), .int .i64 ((fun _ => 0) 1), .int .i64 ((fun _ => 0) 2), .int .i64 ((fun _ => 0) 3), .int .i64 ((fun _ => 0) 4)] 50 (0, 0))) :=
  (h.block v0.heap.size (by simp)).trans (heap_alloc_new v0 _)
theorem zbA2 {v1 v2 : World} {r : List Int} {f n b q : Nat} (h1 : Hid (v1.heap[q]? = some (.cells #[.int .i64 ((fun _ => 0) 0), .int .i64 ((fun _ => 0) 1), .int .i64 ((fun _ => 0) 2), .int .i64 ((fun _ => 0) 3), .int .i64 ((fun _ => 0) 4)] 50 (0, 0)))) (hE : Hid (EachAt r f n b v2 ∧ v1.heap.size ≤ b)) (h : Below v1.heap.size v1 v2) : Hid (v2.heap[q]? = some (.cells #[.int .i64 ((fun _ => 0) 0), .int .i64 ((fun _ => 0) 1), .int .i64 ((fun _ => 0) 2), .int .i64 ((fun _ => 0) 3), .int .i64 ((fun _ => 0) 4)] 50 (0, 0)) ∧ q < b) :=
  ⟨(h.block q (zbLt h1.out)).trans h1.out, Nat.lt_of_lt_of_le (zbLt h1.out) hE.out.2⟩
theorem zb3 {v2 v3 : World} {b q : Nat} (h2 : Hid (v2.heap[q]? = some (.cells #[.int .i64 ((fun _ => 0) 0), .int .i64 ((fun _ => 0) 1), .int .i64 ((fun _ => 0) 2), .int .i64 ((fun _ => 0) 3), .int .i64 ((fun _ => 0) 4)] 50 (0, 0)) ∧ q < b)) (h : Upd b (b + 1) v2 v3) : BoxZ v3 q :=
  BoxZ.of ((h.block q (zbLt h2.out.1) (.inl h2.out.2)).trans h2.out.1)
theorem zbC3 {v2 v3 : World} {r : List Int} {f n b c : Nat} (hE : Hid (EachAt r f n b v2 ∧ c ≤ b)) (h : Upd b (b + 1) (v2.alloc (.cells #[.int .i64 ((fun _ => 0) 0), .int .i64 ((fun _ => 0) 1), .int .i64 ((fun _ => 0) 2), .int .i64 ((fun _ => 0) 3), .int .i64 ((fun _ => 0) 4)] 50)) v3) : BoxZ v3 v2.heap.size :=
  BoxZ.of ((h.block v2.heap.size (by simp) (.inr (by have := hE.out.1.hs; omega))).trans (heap_alloc_new v2 _))

/-- the box behind the region, made last .. -/
theorem leafD {v0 v3 : World} (f : Nat → Int) (h : Below v0.heap.size v0 v3) : ∃ (w4 : World) (q : Nat), w4 = v3.alloc (.cells #[.int .i64 (f 0), .int .i64 (f 1), .int .i64 (f 2), .int .i64 (f 3), .int .i64 (f 4)] 50) ∧ q = v3.heap.size ∧ w4.heap[q]? = some (.cells #[.int .i64 (f 0), .int .i64 (f 1), .int .i64 (f 2), .int .i64 (f 3), .int .i64 (f 4)] 50 (0, 0)) ∧ Below v0.heap.size v0 w4 ∧ v0.heap.size ≤ q :=
  ⟨_, _, rfl, rfl, heap_alloc_new v3 _, h.alloc h.size _, h.size⟩
/-- .. or made ahead -/
theorem leafS {v0 v3 : World} {p : Nat} (f : Nat → Int) (h : Below v0.heap.size v0 v3) (hb : v3.heap[p]? = some (.cells #[.int .i64 ((fun _ => 0) 0), .int .i64 ((fun _ => 0) 1), .int .i64 ((fun _ => 0) 2), .int .i64 ((fun _ => 0) 3), .int .i64 ((fun _ => 0) 4)] 50 (0, 0))) (hp : v0.heap.size ≤ p) :
    ∃ (w4 : World) (q : Nat), w4 = (((((v3.setCell ⟨p, 0, none⟩ (.int .i64 (f 0))).setCell ⟨p, 1, none⟩ (.int .i64 (f 1))).setCell ⟨p, 2, none⟩ (.int .i64 (f 2))).setCell ⟨p, 3, none⟩ (.int .i64 (f 3))).setCell ⟨p, 4, none⟩ (.int .i64 (f 4))) ∧ q = p ∧ w4.heap[q]? = some (.cells #[.int .i64 (f 0), .int .i64 (f 1), .int .i64 (f 2), .int .i64 (f 3), .int .i64 (f 4)] 50 (0, 0)) ∧ Below v0.heap.size v0 w4 ∧ v0.heap.size ≤ q := by
  obtain ⟨W, hW, h1, h2, h3, h4⟩ := set5w (w := v3) (by rfl) hb (.int .i64 (f 0)) (.int .i64 (f 1)) (.int .i64 (f 2)) (.int .i64 (f 3)) (.int .i64 (f 4))
  exact ⟨W, p, hW, rfl, h1, h.trans ⟨h4.1, h4.2.1, h4.2.2, by omega, fun k hk => h2 k (by omega)⟩, hp⟩
theorem kset {w : World} {b q o j : Nat} {v x : Value} (hne : b ≠ q) (h : w.cell? ⟨b, o, none⟩ = some x) : (w.setCell ⟨q, j, none⟩ v).cell? ⟨b, o, none⟩ = some x :=
  (World.cell?_of_block (a := ⟨b, o, none⟩) (Below.heap_setCell _ _ _ _ hne)).trans h

theorem i_bestEach {r : List Int} {f n b : Nat} {ps : List (List Int)} {v : Value} {Bp : Nat} {wp W w : World} (hr : r.length = f) (hf : f < 5) (hn : n ≤ 3)
    (hE : EachAt r f n b W) (hb : Below W.heap.size W w) (ho : OwnP wp Bp v ps) (hbp : Below wp.heap.size wp w) (hpW : wp.heap.size ≤ b) (hl : ps.length ≤ 1048576) (hpr : ∀ p ∈ ps, p.length = f + 1) :
    Calls Try.prog 34 #[.func (.func 63) #[] #[.pointer (some ⟨b + 2, 0, none⟩), .pointer (some ⟨b, 0, none⟩), .pointer (some ⟨b + 1, 0, none⟩)], v] w (fun e w' => e = .returned (.agg #[.int .i64 (at5 (wdB n ps r) 0), .int .i64 (at5 (wdB n ps r) 1), .int .i64 (at5 (wdB n ps r) 2), .int .i64 (at5 (wdB n ps r) 3), .int .i64 (at5 (wdB n ps r) 4)]) ∧ Upd b (b + 1) w w') := by
  have hs := hE.hs
  have hz := hb.size
  have hseq := withEach1_seq (n₀ := W.heap.size) (w := W) hr hf hn hE.ht hE.hf hE.hn (by omega) (by omega) (by omega) (by omega) (by omega) (Nat.le_refl _)
  have hbe : bstL (fun x => met5 ps (at5 x)) (wdC n r) = bstL (frP ps) (wdC n r) := bstL_congr fun x hx => met_fr (by have := wdC_row hx; omega) fun p hp => by rw [hpr p hp, wdC_row hx, hr]
  have h := i_bestOf (enters_of Try.func63 (by kernel_rfl) rfl) hseq hz (by omega) hb ho hbp (fun k _ hk => .inl (by omega)) hl
  rw [hbe] at h
  exact h

/-- an array stored into a box -/
theorem step_store5 {wr : World} {ops : Array Oper} {o : Oper} {a : Act} {K : Act → World → Prop} {Q : Exit → Act → World → Prop} {E : Prop} (hgd : o.guard = none) (p v : Operand)
    (ho : o.op = .store 50 p v) (b : Nat) (f g : Nat → Int) (hp : a.eval p = .pointer (some ⟨b, 0, none⟩)) (hv : a.eval v = .agg #[.int .i64 (f 0), .int .i64 (f 1), .int .i64 (f 2), .int .i64 (f 3), .int .i64 (f 4)])
    (hb : wr.heap[b]? = some (.cells #[.int .i64 (g 0), .int .i64 (g 1), .int .i64 (g 2), .int .i64 (g 3), .int .i64 (g 4)] 50 (0, 0)))
    (h : ∀ w', w'.heap[b]? = some (.cells #[.int .i64 (f 0), .int .i64 (f 1), .int .i64 (f 2), .int .i64 (f 3), .int .i64 (f 4)] 50 (0, 0)) → Upd b (b + 1) wr w' → w'.heap.size = wr.heap.size → K (a.put o.dst undef) w') : if Region.wanted o (yielded ops a.tmps) = true then Oper.wp Try.prog o a wr K Q else E := by
  have hw : Region.wanted o (yielded ops a.tmps) = true := by simp [Region.wanted, hgd]
  rw [if_pos hw]
  refine wp_store_mid 50 p v ho b 0 #[.int .i64 (f 0), .int .i64 (f 1), .int .i64 (f 2), .int .i64 (f 3), .int .i64 (f 4)] hp hv (fun j hj => ?_) infoPatB (by simp [Value.oneCell']) ?_
  · have hj5 : j < 5 := hj
    rw [Nat.zero_add, cell5 hb hj5]
    exact ⟨rfl, frozen5 hb j⟩
  · obtain ⟨W, hW, h1, h2, h3, h4⟩ := set5w (w := wr) (by rfl) hb (.int .i64 (f 0)) (.int .i64 (f 1)) (.int .i64 (f 2)) (.int .i64 (f 3)) (.int .i64 (f 4))
    have hE : wr.setCells b 0 (#[.int .i64 (f 0), .int .i64 (f 1), .int .i64 (f 2), .int .i64 (f 3), .int .i64 (f 4)]).toList = W := hW.symm
    rw [hE]
    exact h W h1 ⟨h4.1, h4.2.1, h4.2.2, by omega, fun k _ hk => h2 k (by omega)⟩ h3

set_option maxRecDepth 100000 in
set_option maxHeartbeats 8000000 in
theorem i_AddFactor {m : List Int} {s : List (List Int)} {a a' : Option Addr} {c c' lo hi lo' hi' : Nat} {w : World} {l t : Int} (hm : RI w lo hi a m) (hlm : m.length ≤ 1048576) (hs : RII w lo' hi' a' s) (hls : s.length ≤ 9223372036854775807) (hg : ∀ r ∈ s, r.length ≤ 9223372036854775807) (_hl0 : -9223372036854775808 ≤ l) (_hl1 : l ≤ 9223372036854775807) (_ht0 : -9223372036854775808 ≤ t) (_ht1 : t ≤ 9223372036854775807) (hB : hi ≤ w.heap.size) (hB' : hi' ≤ w.heap.size) :
    Calls Try.prog 9 #[.slice a m.length c, .slice a' s.length c', .int .i64 l, .int .i64 t] w (NewIIB w (adL m s l t) (adB m s l t)) := by
  have HG := Lib.hid hg; clear hg
  obtain ⟨M, hM⟩ : ∃ M, m ++ [l] = M := ⟨_, rfl⟩
  have hE := @adG_eq m s l t
  rw [hM] at hE
  have HE := Lib.hid hE
  have hMl : M.length = m.length + 1 := by rw [← hM]; simp
  have HM := Lib.hid hM
  have HML := Lib.hid hMl
  have hMb : M.length ≤ 1048577 := by omega
  -- the two boxes
  obtain ⟨W1, hW1⟩ : ∃ W, w.alloc (.cells #[.int .i64 l] 3) = W := ⟨_, rfl⟩
  have hb1 : Below w.heap.size w W1 := by rw [← hW1]; exact (Below.refl w.heap.size w).alloc (Nat.le_refl _) _
  have hz1 : W1.heap.size = w.heap.size + 1 := by rw [← hW1]; simp
  have hrl : RI W1 0 (w.heap.size + 1) (some ⟨w.heap.size, 0, none⟩) [l] := by
    rw [← hW1]; intro k hk
    obtain rfl : k = 0 := by simpa using hk
    exact ⟨w.heap.size, 0, rfl, Nat.zero_le _, Nat.lt_succ_self _, l, rfl, by rw [cell_of_row _ _ 0 _ _ _ (heap_alloc_new w _)]; rfl⟩
  obtain ⟨W2, hW2⟩ : ∃ W, W1.alloc (.cells #[.slice a m.length c, .slice (some ⟨w.heap.size, 0, none⟩) 1 1] 22) = W := ⟨_, rfl⟩
  have hb2 : Below W1.heap.size W1 W2 := by rw [← hW2]; exact (Below.refl W1.heap.size W1).alloc (Nat.le_refl _) _
  have hz2 : W2.heap.size = W1.heap.size + 1 := by rw [← hW2]; simp
  have e1 : W2.cell? ⟨W1.heap.size, 0, none⟩ = some (.slice a m.length c) := by rw [← hW2, cell_of_row _ _ 0 _ _ _ (heap_alloc_new W1 _)]; rfl
  have e2 : W2.cell? ⟨W1.heap.size, 1, none⟩ = some (.slice (some ⟨w.heap.size, 0, none⟩) 1 1) := by rw [← hW2, cell_of_row _ _ 1 _ _ _ (heap_alloc_new W1 _)]; rfl
  have hb02 := hb1.trans (hb2.mono (by omega))
  have hm2 : RI W2 0 (w.heap.size + 1) a m := (hm.below hb02 hB).wide (Nat.zero_le _) (by omega)
  have hl2 := hrl.below hb2 (by omega)
  have HW1 := Lib.hid hW1; have HW2 := Lib.hid hW2
  have HCC := Lib.hid (x_ConcatO e1 e2 (by omega) rfl (by simp) hm2 hl2 (by omega) hlm (by omega))
  rw [hM] at HCC
  have hn1 : w.heap.size + 1 = W1.heap.size := hz1.symm
  have HN1 := Lib.hid hn1
  clear hW1 hW2 hM hE hMl hrl e1 e2 hm2 hl2 hn1
  go_enter Try.func9, Try.ntmps9
  go_wp2_with fail
  try rw [HW1.out]
  try rw [HN1.out]
  try rw [HW2.out]
  refine HCC.out.mono ?_
  rintro e w3 ⟨Ma, Mc, rfl, hMo, hb3⟩
  have hz3 := hb3.size
  have hb03 := hb02.trans (hb3.mono (by omega))
  have hz03 := hb03.size
  have hm3 := hm.below hb03 hB
  have hs3 := hs.below hb03 hB'
  clear hb02 hb3 hm hs hb1 hb2
  go_wp2_with fail
  refine (i_ValidSuite hm3 (by omega) hs3 hls HG.out).mono ?_
  rintro e w4 ⟨rfl, d4⟩
  have d4 : Dr w3 w4 := d4
  cases hv : (okM m && okS m s)
  · have HN := Lib.hid (adB_noI (show adG m s l t = false by rw [HE.out, hv]; rfl))
    go_wp2
    go_ret2
    exact NewIIB.none HN.out (hb03.trans (Dr.below d4 _))
  have HV := Lib.hid hv; clear hv
  go_wp2_with fail
  refine (i_ValidModel (hMo.ri.dr d4) (by omega)).mono ?_
  rintro e w5 ⟨rfl, d5⟩
  have d5 : Dr w3 w5 := d4.trans d5
  cases hvM : okM M
  · have HN := Lib.hid (adB_noI (show adG m s l t = false by rw [HE.out, hvM]; simp))
    go_wp2
    go_ret2
    exact NewIIB.none HN.out (hb03.trans (Dr.below d5 _))
  have HVM := Lib.hid hvM; clear hvM
  by_cases ht1 : t < 1
  · have HN := Lib.hid (adB_noI (show adG m s l t = false by rw [HE.out, show decide (1 ≤ t) = false from decide_eq_false (by omega)]; simp))
    go_wp2
    go_ret2
    exact NewIIB.none HN.out (hb03.trans (Dr.below d5 _))
  go_wp2_with fail
  refine (i_isStrength (by omega)).mono ?_
  rintro e w6 ⟨rfl, d6⟩
  have d6 : Dr w3 w6 := d5.trans d6
  cases hin : inR t 0 (M.length : Nat)
  · have HN := Lib.hid (adB_noI (show adG m s l t = false by rw [HE.out, hin]; simp))
    go_wp2
    go_ret2
    exact NewIIB.none HN.out (hb03.trans (Dr.below d6 _))
  have HADG : Hid (adG m s l t = true) := by show _ = _; rw [HE.out, HV.out, HVM.out, hin, show decide (1 ≤ t) = true from decide_eq_true (by omega)]; rfl
  have hin' := inR_true.1 hin
  have hpa := adG_m HADG.out
  have hM5 := okM_len HVM.out
  have hm4 : m.length ≤ 4 := by have := HML.out; omega
  have hsl := okS_len hpa.2.1
  have HOS := Lib.hid hpa.2.1
  have hz6 := Dr.le d6
  have hm6 := hm3.dr d6
  have hs6 := hs3.dr d6
  have hM6 := hMo.ri.dr d6
  have hb06 := hb03.trans (Dr.below d6 _)
  clear hin d4 d5 d6 hm3 hs3 hMo hb03
  go_wp2_with fail
  have HMe : Hid (adM m l = M) := HM.out
  have hbA := (Below.refl w6.heap.size w6).alloc (Nat.le_refl _) (.cells #[.int .i64 (m.length : Int)] 3)
  have hzA : (w6.alloc (.cells #[.int .i64 (m.length : Int)] 3)).heap.size = w6.heap.size + 1 := by simp
  have hcb : (w6.alloc (.cells #[.int .i64 (m.length : Int)] 3)).cell? ⟨w6.heap.size, 0, none⟩ = some (.int .i64 (m.length : Int)) := by rw [cell_of_row _ _ 0 _ _ _ (heap_alloc_new w6 _)]; rfl
  obtain ⟨W7, hW7⟩ : ∃ W, w6.alloc (.cells #[.int .i64 (m.length : Int)] 3) = W := ⟨_, rfl⟩
  rw [hW7] at hbA hzA hcb ⊢
  clear hW7
  have hM7 := hM6.below hbA (by omega)
  refine (i_patternsOf HVM.out hM7 (by omega) hin'.1 hin'.2).mono ?_
  rintro e w8 ⟨v8, rfl, hP, hb8⟩
  have hz8 := hb8.size
  have hPL := patS_len HVM.out t (head := [])
  obtain ⟨P, hPe⟩ : ∃ P, patS M [] t = P := ⟨_, rfl⟩
  rw [hPe] at hP hPL
  have HPE := Lib.hid hPe
  have hcb8 := (hb8.cell (p := ⟨w6.heap.size, 0, none⟩) (by show w6.heap.size < _; omega)).trans hcb
  have HLT8 := Lib.hid hP.lt
  have HDE := Lib.hid (x_DelAdd (.pointer (some ⟨w6.heap.size, 0, none⟩)) (fun q => at5 q m.length == -1) hP (by omega) (fun q _ w' hg => i_AddFactor1 (by omega) ((World.cell?_of_block (w := w8) (a := ⟨w6.heap.size, 0, none⟩) (hg.block w6.heap.size (by omega) (fun e => by have := HLT8.out _ e.symm; omega))).trans hcb8)))
  have hM8 := hM7.below hb8 (by omega)
  have hb68 := hbA.trans (hb8.mono (by omega))
  clear hPe hP hbA hb8 hcb hM7 hM6
  go_wp2_with fail
  refine HDE.out.mono ?_
  rintro e w9 ⟨v9, rfl, hL, hgr⟩
  have hb89 := hgr.below (B := W7.heap.size) (fun g hg => (HLT8.out g hg).1) (by omega)
  have hL : OwnP w9 W7.heap.size v9 (hvF m.length P) := hL
  obtain ⟨LF, hLF⟩ : ∃ LF, hvF m.length P = LF := ⟨_, rfl⟩
  have HLF := Lib.hid hLF
  rw [hLF] at hL
  obtain ⟨va, vc, rfl, _⟩ := hL.at
  have hz9 := hb89.size
  have hcb9 := (hb89.cell (p := ⟨w6.heap.size, 0, none⟩) (by show w6.heap.size < _; omega)).trans hcb8
  have hb69 := hb68.trans (hb89.mono (by omega))
  have hb09 := hb06.trans (hb69.mono (by omega))
  have hs9 := hs6.below hb69 (by omega)
  have hM9 := hM8.below hb89 (by omega)
  have HLT9 := Lib.hid hL.lt
  obtain ⟨n, rfl⟩ := Int.eq_ofNat_of_zero_le (show 0 ≤ l by omega)
  have hn1 : 1 ≤ n := by omega
  have hn3 : n ≤ 3 := by omega
  obtain ⟨f, hf⟩ : ∃ f, m.length = f := ⟨_, rfl⟩
  have HF := Lib.hid hf
  have hll0 : LF.length ≤ 1048576 := by rw [← hLF]; exact Nat.le_trans (List.length_filter_le _ _) (by omega)
  have hmk := makeLLk s.length hsl
  have hst := OwnLL.room w9 w9.heap.size s.length 22 rfl (Nat.le_refl _) (by unfold maxLen; omega)
  have hb9A := (Below.refl w9.heap.size w9).alloc (Nat.le_refl _) (.cells (madeCells #[.slice none 0 0] s.length) 22)
  have hLA : OwnP (w9.alloc (.cells (madeCells #[.slice none 0 0] s.length) 22)) W7.heap.size (.slice va LF.length vc) LF := hL.kept fun k hk _ => hb9A.block k hk
  have hoff0 : Hid (∀ g, (Value.slice va LF.length vc).ownBlock = some g → (Value.slice (some ⟨w9.heap.size, 0, none⟩) 0 s.length).ownBlock ≠ some g) := fun g h1 h2 => by
    have := (hL.lt g h1).2
    simp [Value.ownBlock] at h2; omega
  have hG0 : Hid (wdG n (s.take 0) LF = ([], LF)) := rfl
  have hbr0 : Below w9.heap.size w9 (w9.alloc (.cells (madeCells #[.slice none 0 0] s.length) 22)) := hb9A
  clear hgr hb89 hcb8 hM8 hm6 hs6 hb68 hb06 hL HDE HLT8 hPL hf hLF hb9A
  go_wp2
  clear hmk
  go_loopw [12, 13, 53] (fun vo vg iv wr => ∃ (k : Nat) (av : Option Addr) (cv : Nat) (ps' out : List (List Int)) (ao : Addr) (co Bq : Nat), k ≤ s.length ∧ iv = .int .i64 k ∧ vo = .slice av ps'.length cv ∧ vg = .slice (some ao) out.length co ∧ OwnP wr Bq (.slice av ps'.length cv) ps' ∧
    Hid (∀ g, (Value.slice av ps'.length cv).ownBlock = some g → (Value.slice (some ao) out.length co).ownBlock ≠ some g) ∧ OwnLL wr w9.heap.size (.slice (some ao) out.length co) out ∧ Below w9.heap.size w9 wr ∧ Hid (wdG n (s.take k) LF = (out, ps'))) (fun _ _ iv _ => s.length - (intOf iv).toNat)
  case atStart => exact ⟨0, va, vc, LF, [], _, _, _, Nat.zero_le _, rfl, rfl, rfl, hLA, hoff0, hst, hbr0, hG0⟩
  case round =>
    clear hLA hoff0 hst hbr0 hG0
    obtain ⟨k, av, cv, ps', out, ao, co, Bq, hk, rfl, rfl, rfl, hop, hoff, ho, hBl, hG⟩ := hrel
    obtain ⟨v0, hv0⟩ : ∃ y : World, y = wr := ⟨_, rfl⟩
    subst hv0
    have hz0 := hBl.size
    by_cases hlt : k < s.length
    · obtain ⟨b, o, a3, c3, r, ha, _, hb2, hcell, hr, hx⟩ := (hs9.below hBl (by omega)).at hlt
      have hidx := idxII ha hlt c'
      have hpl' : ps'.length ≤ 1048576 := by have := (wdG_len n (s.take k) LF).2; rw [hG.out] at this; simp at this; omega
      have hol : out.length ≤ 20 := by have := (wdG_len n (s.take k) LF).1; rw [hG.out] at this; simp at this; omega
      have hrl := okW_len (okS_all HOS.out (List.mem_of_getElem? hx.out))
      have HRF : Hid (r.length = f) := by show _ = _; rw [HF.out.symm]; exact hrl
      have HSN : Hid (wdG n (s.take (k + 1)) LF = (out ++ [wdB n ps' r], rstP ps' (wdB n ps' r))) := by show _ = _; rw [take_snoc hx.out, wdG_snoc, hG.out]
      have HPR : Hid (∀ p ∈ ps', p.length = f + 1) := fun p hp => by
        have h1 : p ∈ LF := wdG_left n (s.take k) LF p (by rw [hG.out]; exact hp)
        rw [← HLF.out] at h1
        have h2 := hvF_mem h1
        rw [← HPE.out] at h2
        have h3 := patS_row _ h2
        rw [h3, HML.out, HF.out]
      have hf4 : f ≤ 4 := by have := HF.out; omega
      have HPO : Hid (∀ w', Below v0.heap.size v0 w' → Calls Try.prog 36 #[.slice a3 r.length c3] w' (NewV w' (.agg #[.int .i64 (at5 r 0), .int .i64 (at5 r 1), .int .i64 (at5 r 2), .int .i64 (at5 r 3), .int .i64 (at5 r 4)]))) := fun w' hb => i_patternOf (hr.below hb (by omega)) (by have := hb.size; omega) (by omega)
      have HWE : Hid (∀ w', Calls Try.prog 35 #[.agg #[.int .i64 (at5 r 0), .int .i64 (at5 r 1), .int .i64 (at5 r 2), .int .i64 (at5 r 3), .int .i64 (at5 r 4)], .int .i64 (m.length : Int), .int .i64 (n : Int)] w' (fun e w'' => ∃ b, e = .returned (.func (.func 63) #[] #[.pointer (some ⟨b + 2, 0, none⟩), .pointer (some ⟨b, 0, none⟩), .pointer (some ⟨b + 1, 0, none⟩)]) ∧ Hid (EachAt r f n b w'' ∧ w'.heap.size ≤ b) ∧ Below w'.heap.size w' w'')) := fun w' => by rw [HF.out]; exact i_withEach r f n w'
      obtain ⟨x, hx2⟩ : ∃ x, wdB n ps' r = x := ⟨_, rfl⟩
      have HBE : Hid (∀ b v2 w', EachAt r f n b v2 → v0.heap.size ≤ b → Below v0.heap.size v0 v2 → Below v2.heap.size v2 w' → Calls Try.prog 34 #[.func (.func 63) #[] #[.pointer (some ⟨b + 2, 0, none⟩), .pointer (some ⟨b, 0, none⟩), .pointer (some ⟨b + 1, 0, none⟩)], .slice av ps'.length cv] w' (fun e w'' => e = .returned (.agg #[.int .i64 (at5 x 0), .int .i64 (at5 x 1), .int .i64 (at5 x 2), .int .i64 (at5 x 3), .int .i64 (at5 x 4)]) ∧ Upd b (b + 1) w' w'')) := fun b v2 w' h1 h2 h3 h4 => by
        have h := i_bestEach HRF.out (by omega) hn3 h1 h4 hop (h3.trans (h4.mono h3.size)) h2 hpl' HPR.out
        rw [hx2] at h; exact h
      have HS : Hid (∀ w', Below v0.heap.size v0 w' → w'.cell? ⟨w6.heap.size, 0, none⟩ = some (.int .i64 (m.length : Int))) := fun w' hb => (hb.cell (p := ⟨w6.heap.size, 0, none⟩) (by show w6.heap.size < _; omega)).trans ((hBl.cell (p := ⟨w6.heap.size, 0, none⟩) (by show w6.heap.size < _; omega)).trans hcb9)
      have HX2 := Lib.hid hx2
      have hq0 : Below v0.heap.size v0 v0 := Below.refl _ _
      clear hrl ha hx hx2
      go_wp2_with fail
      go_region_held3 (fun w' => w'.cell? ⟨w6.heap.size, 0, none⟩ = some (.int .i64 (m.length : Int))) (first | (refine HS.out _ ?_; (repeat (first | with_reducible exact hq3 | with_reducible exact hq2 | with_reducible exact hq1 | with_reducible exact hq0 | with_reducible refine aBelowA ?_ _ | with_reducible refine aBelowD ?_)); done) | (have h1 := hq1.size; have h2 := hq2.size; refine kset (by omega) ?_; refine kset (by omega) ?_; refine kset (by omega) ?_; refine kset (by omega) ?_; refine kset (by omega) ?_; exact HS.out _ hq3) | go_keep) ((first
        | (go_at_call 36; refine (HPO.out _ (by (repeat (first | with_reducible exact hq2 | with_reducible exact hq1 | with_reducible exact hq0 | with_reducible refine aBelowA ?_ _ | with_reducible refine aBelowD ?_)))).mono ?_; rintro e v1 ⟨rfl, hbP⟩; have hq1 : Below v0.heap.size v0 v1 := aBelowS (by (repeat (first | with_reducible exact hq2 | with_reducible exact hq1 | with_reducible exact hq0 | with_reducible refine aBelowA ?_ _ | with_reducible refine aBelowD ?_))) hbP; try (have hbx1 : Hid (v1.heap[v0.heap.size]? = some (.cells #[.int .i64 ((fun _ => 0) 0), .int .i64 ((fun _ => 0) 1), .int .i64 ((fun _ => 0) 2), .int .i64 ((fun _ => 0) 3), .int .i64 ((fun _ => 0) 4)] 50 (0, 0))) := zbA1 (v0 := v0.drew) hbP))
        | (go_at_call 35; refine (HWE.out _).mono ?_; rintro e v2 ⟨b2, rfl, hE2, hbW⟩; have hq2 : Below v0.heap.size v0 v2 := aBelowS (by (repeat (first | with_reducible exact hq2 | with_reducible exact hq1 | with_reducible exact hq0 | with_reducible refine aBelowA ?_ _ | with_reducible refine aBelowD ?_))) hbW; have hz2 : Below v2.heap.size v2 v2 := Below.refl _ _; have hvb2 : v0.heap.size ≤ b2 := Nat.le_trans (Below.size (by (repeat (first | with_reducible exact hq2 | with_reducible exact hq1 | with_reducible exact hq0 | with_reducible refine aBelowA ?_ _ | with_reducible refine aBelowD ?_)))) hE2.out.2; first | (have hbx2 := zbA2 hbx1 hE2 hbW) | (have hbx2 := zbA2 (q := v1.heap.size) (heap_alloc_new v1 _) hE2 hbW) | skip)
        | (go_at_call 34; refine (HBE.out b2 v2 _ hE2.out.1 hvb2 hq2 (by (repeat (first | with_reducible exact hz2 | with_reducible refine aBelowA ?_ _ | with_reducible refine aBelowD ?_)))).mono ?_; rintro e v3 ⟨rfl, hu3⟩; have hq3 : Below v0.heap.size v0 v3 := aBelowU (by (repeat (first | with_reducible exact hq2 | with_reducible exact hq1 | with_reducible exact hq0 | with_reducible refine aBelowA ?_ _ | with_reducible refine aBelowD ?_))) hvb2 hu3; first | (have hbx3 := zb3 hbx2 hu3; obtain ⟨hbx4, ⟨d0, d1, d2, d3, d4⟩, fz0, fz1, fz2, fz3, fz4⟩ := hbx3) | (have hbx3 := zbC3 hE2 hu3; obtain ⟨hbx4, ⟨d0, d1, d2, d3, d4⟩, fz0, fz1, fz2, fz3, fz4⟩ := hbx3) | skip)
        | fail))
      all_goals
        first
          | (obtain ⟨u4, q, hu4, hq, hbox, hq4, hqv⟩ := leafD (at5 x) hq3; rw [← hu4, ← hq])
          | (obtain ⟨u4, q, hu4, hq, hbox, hq4, hqv⟩ := leafS (at5 x) hq3 hbx4 (by first | exact hq2.size | exact hq1.size | exact Nat.le_refl _); rw [← hu4, ← hq])
        clear hu4 hq hq3 hu3 hq2 hq1 hE2 hbW hbP hz2 hvb2 HPO HWE HBE HS hidx hr hcell
        try clear hbx3
        try clear hbx4 d0 d1 d2 d3 d4 fz0 fz1 fz2 fz3 fz4
        have hql := zbLt hbox
        have hxl := wdB_len ps' r hn1
        have HXL : Hid (x.length = M.length) := by show _ = _; rw [← HX2.out, HML.out, HF.out, ← HRF.out]; exact hxl
        have hx0 : Hid (x ≠ []) := by intro e; have := HXL.out; rw [e] at this; simp at this; omega
        have hsl5 := fun b wx => slice5 b M.length hM5.2 wx
        have hbx := ri_box hbox (by have := HXL.out; omega)
        clear hxl
        go_wp2_with fail
        refine (x_CloneN HXL.out hbx (by omega) hx0.out (by omega)).mono ?_
        rintro e u5 ⟨a5, c5, rfl, h5, hb5⟩
        have hs4 := hq4.size
        have hs5 := hb5.size
        have hb05 : Below v0.heap.size v0 u5 := hq4.trans (hb5.mono hs4)
        have ho5 : OIc u5 v0.heap.size u5.heap.size a5 c5 x := h5.wide hs4 (Nat.le_refl _)
        have hO := OII.oneN (t := 22) (c := c5) HXL.out ho5 (by omega) (Nat.le_refl _)
        have hb6 : Below v0.heap.size v0 (u5.alloc (.cells #[.slice a5 M.length c5] 22)) := hb05.alloc (by omega) _
        obtain ⟨A3, C3, G3, hf3, hc3⟩ := Fam.ofOII hO
        have hkl : out.length ≤ 1099511627776 := by omega
        have hlg := Lib.hid ho.lt
        have hbox5 := (Below.heap_alloc u5 (.cells #[.slice a5 M.length c5] 22) q (by omega)).trans ((hb5.block q hql).trans hbox)
        have hopk : Hid (∀ u7, (u5.alloc (.cells #[.slice a5 M.length c5] 22)).grownBy u7 (Value.slice (some ao) out.length co).ownBlock → OwnP u7 Bq (.slice av ps'.length cv) ps') := fun u7 g =>
          hop.kept fun k hk hg => (g.block k (by have := hb6.size; omega) (fun e => hoff.out k hg e.symm)).trans (hb6.block k hk)
        have HPX : Hid (∀ p ∈ ps', p.length = x.length) := fun p hp => by rw [HPR.out p hp, HXL.out, HML.out, HF.out]
        have HOFF := hoff
        clear hbx h5 ho5 hO hbox hb05 hop hoff
        go_wp2_with (first
          | (at_builtin; refine wpList_appLLg (W0 := v0) rfl (.tmp 64) (.tmp 69) rfl w9.heap.size (.slice (some ao) out.length co) out [x] rfl ho hb6 (by omega) ⟨u5.heap.size, 0, none⟩ 1 1 rfl rfl A3 C3 G3 hf3 hc3 hkl (by simp) ?_; intro v7 u7 hown7 hb7 hnn7 g2 g4; obtain ⟨ad7, c7, hv7, _⟩ := hown7.some (hnn7.out (by simp)); subst hv7; have hb11 := (g2.block q (by simp only [World.size_alloc]; omega) (fun e => by have := (hlg.out _ e.symm).2; omega)).trans hbox5; obtain ⟨e0, e1, e2, e3, e4⟩ := cells5' hb11; have hop7 := hopk.out u7 g2)
          | (go_at_call 38; refine (i_unmetR (w0 := u7) (by have := HXL.out; omega) HPX.out hop7 (Below.refl _ _) hpl').mono ?_; rintro e u8 ⟨v8, rfl, hown8, hb8⟩; obtain ⟨a8, c8, rfl, _⟩ := hown8.at)
          | go_in)
        have hlt7 := hown7.lt
        have hlt8 := hown8.lt
        have hs7 := hb7.size
        have hs8 := hb8.size
        have hrs := rstP_le ps' x
        have hown6 := hown7.below hb8
        have hBl6 : Below w9.heap.size w9 u8 := ((hBl.trans (hb6.mono hz0)).trans hb7).trans (hb8.mono (by have := hb6.size; simp only [World.size_alloc] at this hs7; omega))
        have hoff6 : Hid (∀ g, (Value.slice a8 (rstP ps' x).length c8).ownBlock = some g → (Value.slice (some ad7) (out ++ [x]).length c7).ownBlock ≠ some g) := fun g h1 h2 => by
          have := (hlt8 g h1).1; have := (hlt7 g h2).2; omega
        have HI6 : Hid (wdG n (s.take (k + 1)) LF = (out ++ [x], rstP ps' x)) := by show _ = _; rw [HSN.out, HX2.out]
        clear ho hb6 hb7 hb8 hown7 hnn7 g2 g4 hlg hlt7 hlt8 hBl hb11 hopk hop7 hf3 hc3 hbox5 hq4 hb5 hsl5
        go_roundw
        case rel => exact ⟨k + 1, a8, c8, rstP ps' x, out ++ [x], ad7, c7, _, by omega, by go_num, rfl, by simp, hown8, hoff6, hown6, hBl6, HI6⟩
        case measure => simp [intOf]; omega
    · have HT : Hid ((wdG n s LF).1 = out) := by show _ = _; rw [← List.take_of_length_le (show s.length ≤ k by omega), hG.out]
      have HAD : Hid (adL m s n t = gsL M out t ∧ adB m s n t = gsB M out t) := by
        have h := ad_eq HADG.out
        have e : adW m s (n : Int) t = out := by unfold adW; rw [HMe.out, HPE.out, HLF.out, Int.toNat_natCast]; exact HT.out
        rw [e, HMe.out] at h; exact h
      have hoB := (wdG_len n (s.take k) LF).1
      rw [hG.out] at hoB
      have hol : out.length ≤ 20 := by simp at hoB; omega
      have HGO : Hid (∀ r ∈ out, r.length ≤ 9223372036854775807) := fun r hr => by
        obtain ⟨i, hi⟩ := List.mem_iff_getElem?.1 hr
        rw [← HT.out] at hi
        obtain ⟨y, l', h1, h2, rfl⟩ := wdG_row n hn1 s LF i r hi
        have := okW_len (okS_all HOS.out (List.mem_of_getElem? h1))
        simp; omega
      obtain ⟨oa, oc, e1, hO⟩ := ho.slice
      cases e1
      clear hoB hop hoff ho
      go_wp2_with fail
      refine (i_GrowSuite (hM9.below hBl (by omega)) (by omega) hO.oii.rii (by omega) HGO.out _ht0 _ht1 (by omega) (Nat.le_refl _)).mono ?_
      rintro e u4 ⟨ga, gc, rfl, hg4, hb4⟩
      have hb04 := hb09.trans ((hBl.trans (hb4.mono hz0)).mono (by have := hb09.size; omega))
      go_wp2
      go_ret2
      rw [HAD.out.1, HAD.out.2]
      exact ⟨_, _, rfl, ⟨hg4.oii.wide (by have := hb09.size; omega) (Nat.le_refl _), hg4.cap⟩, hb04⟩

end Go.Proofs.Yteoiclkipfdgpaa
