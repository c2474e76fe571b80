/- Walks: the reader. -/
import Derived.Test.YtmmebcjebphfcaaRd
import Derived.Test.YtmmebcjebphfcaaWf
namespace Go.Proofs.Ytmmebcjebphfcaa
open Go.RowKit

set_option maxRecDepth 100000 in
set_option maxHeartbeats 1000000 in
theorem s_newReader {n : Nat} {a : Option Addr} {c : Nat} {w : World} (hm : RB w w.heap.size a n) (hc : n ≤ c) (hl : n ≤ 1048576) :
    Calls Try.prog 64 #[.slice a n c] w (fun e w' => e = .returned (.pointer (some ⟨w.heap.size, 0, none⟩)) ∧ Rdr w' w.heap.size 0 ∧ Below w.heap.size w w') := by
  have hfin : ∀ (n' c' : Nat), n' ≤ n → n' ≤ 2000 → Rdr (w.alloc (.cells #[.slice a n' c', .int .i64 0] 88)) w.heap.size 0 ∧ Below w.heap.size w (w.alloc (.cells #[.slice a n' c', .int .i64 0] 88)) := by
    intro n' c' h1 h2
    have hb := (Below.refl w.heap.size w).alloc (Nat.le_refl _) (.cells #[.slice a n' c', .int .i64 0] 88)
    have hn := heap_alloc_new w (.cells #[.slice a n' c', .int .i64 0] 88)
    refine ⟨⟨a, n', c', 0, ?_, ?_, ?_, (hm.less h1).same fun k hk => hb.block k hk, h2, Nat.le_refl _, by simp⟩, hb⟩
    · rw [cell_of_row _ w.heap.size 0 _ 88 (0, 0) hn]; rfl
    · rw [cell_of_row _ w.heap.size 1 _ 88 (0, 0) hn]; rfl
    · unfold World.frozen?
      rw [hn]
      simp
  have HF := Lib.hid hfin; clear hfin
  by_cases h2 : n ≤ 2000
  · go_enter Try.func64, Try.ntmps64
    go_wp2
    go_ret
    exact ⟨rfl, HF.out n c (Nat.le_refl _) h2⟩
  · have hsl : ∀ wx : World, (Instr.slice 22 (.slice a n c) none (some (.int .i64 2000)) none).run Try.prog wx = .ok (.slice a 2000 c) wx := by
      intro wx
      obtain ⟨b, o, x, ha, _⟩ := hm 0 (by omega)
      subst ha
      rw [run_slice_h (P := Try.prog) (w := wx) 22 (some ⟨b, o, none⟩) n c (by kernel_rfl) .i64 2000 (by omega) (by omega)]
      have hz := sizeU8 wx
      simp [show Program.elem Try.prog 22 = 5 by kernel_rfl, hz, Result.andThen, sliced, Addr.add]
    go_enter Try.func64, Try.ntmps64
    go_wp2
    go_ret
    exact ⟨rfl, HF.out 2000 c (by omega) (Nat.le_refl _)⟩

theorem pick_sum {x y p : Nat} {q : Int} (hx : x < 256) (hy : y < 256) (hp : p ≤ 1048576) (hq0 : 0 ≤ q) (hq1 : q ≤ p) :
    ∃ X : Nat, IntKind.i64.wrap (IntKind.i64.wrap (IntKind.i64.wrap (IntKind.i64.wrap (IntKind.i64.wrap (x : Int) * 131) + IntKind.i64.wrap (IntKind.i64.wrap (y : Int) * 1117)) + IntKind.i64.wrap ((p : Int) * 29)) + IntKind.i64.wrap (IntKind.i64.wrap q * 53)) = (X : Int) ∧ X < 4611686018427387904 := by
  refine ⟨((x : Int) * 131 + y * 1117 + p * 29 + q * 53).toNat, ?_, by omega⟩
  rw [IntWalk.i64_in (x : Int) (by omega), IntWalk.i64_in ((x : Int) * 131) (by omega), IntWalk.i64_in (y : Int) (by omega), IntWalk.i64_in ((y : Int) * 1117) (by omega), IntWalk.i64_in ((p : Int) * 29) (by omega), IntWalk.i64_in q (by omega), IntWalk.i64_in (q * 53) (by omega)]
  rw [IntWalk.i64_in ((x : Int) * 131 + y * 1117) (by omega), IntWalk.i64_in ((x : Int) * 131 + y * 1117 + p * 29) (by omega), IntWalk.i64_in _ (by omega)]
  omega

set_option maxRecDepth 100000 in
set_option maxHeartbeats 4000000 in
theorem s_pick {b K : Nat} {n : Int} {w : World} (hr : Rdr w b K) (hK : K ≤ 1048576) (h0 : -9223372036854775808 ≤ n) (h1 : n ≤ 9223372036854775807) :
    Calls Try.prog 81 #[.pointer (some ⟨b, 0, none⟩), .int .i64 n] w (Pk w b (K + 1) (pkP n)) := by
  obtain ⟨a, m, c, p, c0, c1, fz, hB, hm2, hp, hlt⟩ := hr
  have HR2 := Lib.hid (Rdr.step c0 c1 fz hB hm2 hp hlt)
  have HB := Lib.hid hB
  have HU : Hid (Upd b (b + 1) w (w.setCell ⟨b, 1, none⟩ (.int .i64 ((p : Int) + 1)))) := (Upd.refl b (b + 1) w).setCell (p := ⟨b, 1, none⟩) (Nat.le_refl _) (Nat.lt_succ_self _) _
  clear hB
  by_cases hn : n < 1
  · go_enter Try.func81, Try.ntmps81
    go_wp2
    go_ret
    exact Pk.mk pkP_zero HR2.out HU.out
  by_cases hm0 : m = 0
  · subst hm0
    go_enter Try.func81, Try.ntmps81
    go_wp2
    go_ret
    exact Pk.mk pkP_zero HR2.out HU.out
  have hmm : ((m : Int) == 0) = false := by rw [beq_eq_false_iff_ne]; omega
  by_cases hk : p < m
  · obtain ⟨bb, o, x, ha, hb1, hx, hcx⟩ := HB.out p hk
    have hidx := idxY ha hk c
    have hcx2 : (w.setCell ⟨b, 1, none⟩ (.int .i64 ((p : Int) + 1))).cell? ⟨bb, o + p, none⟩ = some (.int .u8 (x : Int)) := (World.cell?_of_block (w := w) (a := ⟨bb, o + p, none⟩) (Below.heap_setCell _ _ _ _ (by show bb ≠ b; omega))).trans hcx
    clear ha
    go_enter Try.func81, Try.ntmps81
    go_wp2
    go_ret
    exact Pk.mk (pkP_rem (by omega) (by omega)) HR2.out HU.out
  · have hp1 : p % m < m := Nat.mod_lt _ (by omega)
    have hp2 : (p * 7 + 3) % m < m := Nat.mod_lt _ (by omega)
    obtain ⟨bb, o, x, ha, hb1, hx, hcx⟩ := HB.out _ hp1
    obtain ⟨bb2, o2, y, ha2, hb2, hy, hcy⟩ := HB.out _ hp2
    obtain ⟨rfl, rfl⟩ : bb = bb2 ∧ o = o2 := by rw [ha] at ha2; simpa using ha2
    have hidx := idxY ha hp1 c
    have hidx2 := idxY ha hp2 c
    have ht1 : (p : Int).tmod (m : Int) = ((p % m : Nat) : Int) := by rw [Int.tmod_eq_emod_of_nonneg (by omega), Int.natCast_emod]
    have ht2 : (IntKind.i64.wrap (IntKind.i64.wrap ((p : Int) * 7) + 3)).tmod (m : Int) = (((p * 7 + 3) % m : Nat) : Int) := by rw [IntWalk.i64_in ((p : Int) * 7) (by omega), IntWalk.i64_in _ (by omega), Int.tmod_eq_emod_of_nonneg (by omega), Int.natCast_emod]; simp
    have hidxT := fun wx : World => ht1 ▸ hidx wx
    have hidxT2 := fun wx : World => ht2 ▸ hidx2 wx
    clear hidx hidx2 ht1 ht2
    have hq0 : 0 ≤ (p : Int) / (m : Int) := Int.ediv_nonneg (by omega) (by omega)
    have hq1 : (p : Int) / (m : Int) ≤ p := Int.ediv_le_self _ (by omega)
    obtain ⟨wb, hwb⟩ : ∃ x, w.setCell ⟨b, 1, none⟩ (.int .i64 ((p : Int) + 1)) = x := ⟨_, rfl⟩
    have e0 : wb.cell? ⟨b, 0, none⟩ = some (.slice a m c) := by rw [← hwb]; exact (World.cell?_setCell_other _ _ _ _ (by intro he; have := congrArg Addr.off he; simp at this)).trans c0
    have e1 : wb.cell? ⟨b, 1, none⟩ = some (.int .i64 ((p : Int) + 1)) := by rw [← hwb]; exact World.cell?_setCell_same _ _ _ c1
    have hcx2 : wb.cell? ⟨bb, o + p % m, none⟩ = some (.int .u8 (x : Int)) := by rw [← hwb]; exact (World.cell?_of_block (w := w) (a := ⟨bb, o + p % m, none⟩) (Below.heap_setCell _ _ _ _ (by show bb ≠ b; omega))).trans hcx
    have hcy2 : wb.cell? ⟨bb, o + (p * 7 + 3) % m, none⟩ = some (.int .u8 (y : Int)) := by rw [← hwb]; exact (World.cell?_of_block (w := w) (a := ⟨bb, o + (p * 7 + 3) % m, none⟩) (Below.heap_setCell _ _ _ _ (by show bb ≠ b; omega))).trans hcy
    rw [hwb] at HR2 HU
    clear ha ha2 hcx hcy
    go_enter Try.func81, Try.ntmps81
    go_wp2_with fail
    go_region_held3 (fun w' => w'.cell? ⟨b, 0, none⟩ = some (.slice a m c) ∧ w'.cell? ⟨bb, o + p % m, none⟩ = some (.int .u8 (x : Int)) ∧ w'.cell? ⟨bb, o + (p * 7 + 3) % m, none⟩ = some (.int .u8 (y : Int))) (go_keep) (fail)
    obtain ⟨X, hX, hXb⟩ := pick_sum hx hy (show p ≤ 1048576 by omega) hq0 hq1
    rw [hX]
    clear hX hq0 hq1 hidxT hidxT2
    have hxx := i64_xor X (X / 64) (by omega) (by omega)
    have hXX : bits BinOp.xor IntKind.i64 (X : Int) ((X : Int) / 64) = ((X ^^^ X / 64 : Nat) : Int) := hxx.1
    go_wp2
    go_ret
    exact Pk.mk (pkP_rem (Int.natCast_nonneg _) (by omega)) (HR2.out.same (fun _ _ => rfl) (Nat.le_refl _)) (HU.out.trans ⟨rfl, rfl, rfl, Nat.le_refl _, fun _ _ _ => rfl⟩)

set_option maxHeartbeats 1000000 in
theorem s_one {b K lo hi : Nat} {l : List Int} {a : Option Addr} {c : Nat} {w : World} (hr : Rdr w b K) (hK : K ≤ 1048576) (hl : RI w lo hi a l) (h0 : l ≠ []) (hn : l.length ≤ 1048576) (hb : hi ≤ b ∨ b < lo) (hh : hi ≤ w.heap.size) :
    Calls Try.prog 98 #[.pointer (some ⟨b, 0, none⟩), .slice a l.length c] w (Pk w b (K + 1) (fun v => v ∈ l)) := by
  have hlen : 1 ≤ (l.length : Int) := by cases l with | nil => exact absurd rfl h0 | cons _ _ => simp; omega
  have HL := Lib.hid hl; clear hl
  go_enter Try.func98, Try.ntmps98
  go_wp2_with fail
  refine (s_pick hr hK (by omega) (by omega)).mono ?_
  rintro e w1 ⟨v, rfl, hv, hr1, hu1⟩
  obtain ⟨k, rfl⟩ := Int.eq_ofNat_of_zero_le hv.1
  have hk := hv.2 hlen
  have hkl : k < l.length := by omega
  obtain ⟨b1, o1, x, ha, _, _, hcell, hx⟩ := (HL.out.upd hu1 hh (by omega)).at hkl
  have hidx := idxI ha hkl c
  clear ha
  go_wp2
  go_ret
  exact Pk.mk (List.mem_of_getElem? hx.out) hr1 hu1

end Go.Proofs.Ytmmebcjebphfcaa
