/- The desk of the program: the question of three texts. -/
import Derived.Test.YtpioldgpfpmjiaaGreatDoorKt
import Derived.Test.YtpioldgpfpmjiaaGreatDoorKl
import Derived.Test.YtpioldgpfpmjiaaGreatDoorWi
import Derived.Laws.ResultCell
import Derived.Test.YtpioldgpfpmjiaaGreatDoorKp
namespace Go.Proofs.YtpioldgpfpmjiaaGreatDoor
open Go.RowKit

theorem cells3q {w : World} {b t : Nat} {x y z : Value} (h : w.heap[b]? = some (.cells #[x, y, z] t (0, 0))) : w.cell? ⟨b, 0, none⟩ = some x ∧ w.cell? ⟨b, 1, none⟩ = some y ∧ w.cell? ⟨b, 2, none⟩ = some z := by
  refine ⟨?_, ?_, ?_⟩
  · rw [cell_of_row _ _ 0 _ _ _ h]; rfl
  · rw [cell_of_row _ _ 1 _ _ _ h]; rfl
  · rw [cell_of_row _ _ 2 _ _ _ h]; rfl
theorem frozenq {w : World} {b t : Nat} {c : Array Value} (h : w.heap[b]? = some (.cells c t (0, 0))) (k : Nat) : w.frozen? ⟨b, k, none⟩ = false :=
  World.rowIs.frozen (t := t) (n := c.size) (f := fun i => c.getD i undef) ⟨c, h, rfl, fun i hi => by simp [Array.getD, hi]⟩ k
theorem set3w {w : World} {b t : Nat} {x y z : Value} (h : w.heap[b]? = some (.cells #[x, y, z] t (0, 0))) (v0 v1 v2 : Value) :
    ∃ W, W = (((w.setCell ⟨b, 0, none⟩ v0).setCell ⟨b, 1, none⟩ v1).setCell ⟨b, 2, none⟩ v2) ∧ W.heap[b]? = some (.cells #[v0, v1, v2] t (0, 0)) ∧
      (∀ k, k ≠ b → W.heap[k]? = w.heap[k]?) ∧ W.heap.size = w.heap.size ∧ (W.os = w.os ∧ W.tape = w.tape ∧ W.output = w.output) := by
  refine ⟨_, rfl, ?_, fun k hk => ?_, by simp only [World.setCell, Array.size_modify], by simp only [World.setCell], by simp only [World.setCell], by simp only [World.setCell]⟩
  · simp only [World.setCell, Array.getElem?_modify, if_true]
    rw [h]; rfl
  · simp only [World.setCell, Array.getElem?_modify, if_neg (Ne.symm hk)]
theorem infoQ : (Tryz.prog.info? 83).map (·.size) = some 3 := by kernel_rfl
theorem res_q (tmps : Array Value) (w : World) (g t : Nat) (x y z : Value) (hp : tmps.getD 6 undef = .pointer (some ⟨g, 0, none⟩)) (hg : w.heap[g]? = some (.cells #[x, y, z] t (0, 0))) :
    (results Tryz.f49 tmps).run Tryz.prog w = .ok (.tuple #[.agg #[x, y, z], tmps.getD 7 undef]) w := by
  rw [results_cell_tmp Tryz.results49, hp]
  simp [asAddr, Result.andThen, run_loadVar_row w g t 83 #[x, y, z] (0, 0) _ hg Tryz.underlying83 rfl infoQ]

/-- whether three texts are a question -/
def qoB (x1 x2 x3 : ByteArray) : Bool := psB (rdL x1) x3 && dkD x2 (rdL x1).length
theorem dgC_of {c : UInt8} (h1 : 1 ≤ rdB c) (h2 : rdB c ≤ 3) : dgC c = true := by
  unfold rdB at h1 h2
  unfold dgC
  split at h1
  · omega
  · rename_i hd
    rw [if_neg hd] at h2
    split at h1
    · rename_i hn; rw [if_pos hn] at h2; omega
    · rename_i hn
      rw [not_or, UInt8.lt_iff_toNat_lt, UInt8.lt_iff_toNat_lt] at hn
      rw [Bool.and_eq_true, decide_eq_true_eq, decide_eq_true_eq]
      have a1 := hn.1; have a2 := hn.2
      simp at a1 a2
      omega
theorem okM_lvl {m : List Int} (h : okM m = true) : ∀ x ∈ m, 1 ≤ x ∧ x ≤ 3 := fun x hx => by
  obtain ⟨k, hk⟩ := List.mem_iff_getElem?.1 hx
  exact okM_at h hk
theorem ok_dg {x : ByteArray} (h : okM (rdL x) = true) : dgO x = rdL x := by
  have h3 : dgB x = true := by
    unfold dgB
    rw [List.all_eq_true]
    intro c hc
    have := okM_lvl h (rdB c) (by unfold rdL; exact List.mem_map_of_mem hc)
    exact dgC_of this.1 this.2
  unfold dgO; rw [h3]; rfl
theorem dg_one {x : ByteArray} {t : Int} (h : dgO x = [t]) : x.size = 1 ∧ dgC (x.data.toList.headD 0) = true ∧ t = dkN x := by
  unfold dgO at h
  split at h
  · rename_i hb
    have h1 := congrArg List.length h
    rw [rdL_len] at h1
    obtain ⟨⟨l⟩⟩ := x
    match l, h1, hb, h with
    | [c], _, hb, h =>
      have hc : dgC c = true := by simpa [dgB] using hb
      refine ⟨rfl, hc, ?_⟩
      have e : [rdB c] = [t] := h
      injection e with e
      unfold dgC at hc
      rw [Bool.and_eq_true, decide_eq_true_eq, decide_eq_true_eq] at hc
      have hd : c ≠ 46 := by intro e2; rw [e2] at hc; exact absurd hc.1 (by decide)
      rw [rdB_digit hd (by omega) (by omega)] at e
      exact e.symm
  · cases h
theorem dkD_iff {q : ByteArray} {n : Nat} : dkD q n = true ↔ q.size = 1 ∧ dgC (q.data.toList.headD 0) = true ∧ dkN q ≤ n := by
  unfold dkD dgC dkN
  rw [Bool.and_eq_true, Bool.and_eq_true, Bool.and_eq_true, Bool.and_eq_true, decide_eq_true_eq, decide_eq_true_eq, decide_eq_true_eq, decide_eq_true_eq]
  constructor
  · rintro ⟨⟨⟨a, b⟩, c⟩, d⟩; exact ⟨a, ⟨b, c⟩, by omega⟩
  · rintro ⟨a, ⟨b, c⟩, d⟩; exact ⟨⟨⟨a, b⟩, c⟩, by omega⟩
theorem one_dg {x : ByteArray} (h : x.size = 1) (hc : dgC (x.data.toList.headD 0) = true) : dgO x = [dkN x] := by
  obtain ⟨⟨l⟩⟩ := x
  match l, h, hc with
  | [c], _, hc =>
    have hc : dgC c = true := hc
    have hb : dgB ⟨⟨[c]⟩⟩ = true := by simp [dgB, hc]
    unfold dgO
    rw [hb]
    unfold dgC at hc
    rw [Bool.and_eq_true, decide_eq_true_eq, decide_eq_true_eq] at hc
    have hd : c ≠ 46 := by intro e2; rw [e2] at hc; exact absurd hc.1 (by decide)
    show [rdB c] = _
    rw [rdB_digit hd (by omega) (by omega)]
    rfl
theorem dgC_ge {c : UInt8} (h : dgC c = true) : 0 ≤ (c.toNat : Int) - 48 := by
  unfold dgC at h
  rw [Bool.and_eq_true, decide_eq_true_eq, decide_eq_true_eq] at h
  omega
theorem qo_yes {x1 x2 x3 : ByteArray} (h : qoB x1 x2 x3 = true) : dgO x1 = rdL x1 ∧ dgO x2 = [dkN x2] ∧ inR (dkN x2) 0 (rdL x1).length = true ∧ psB (rdL x1) x3 = true := by
  unfold qoB at h
  rw [Bool.and_eq_true] at h
  have hp := h.1
  unfold psB at hp
  rw [Bool.and_eq_true] at hp
  have hd := dkD_iff.1 h.2
  exact ⟨ok_dg hp.1, one_dg hd.1 hd.2.1, inR_true.2 ⟨dgC_ge hd.2.1, hd.2.2⟩, h.1⟩
theorem qo_no {x1 x2 x3 : ByteArray} (h : qoB x1 x2 x3 = false) : (dgO x2).length ≠ 1 ∨ ∃ t, dgO x2 = [t] ∧ (inR t 0 (dgO x1).length = false ∨ (inR t 0 (dgO x1).length = true ∧ psB (dgO x1) x3 = false)) := by
  by_cases h1 : (dgO x2).length = 1
  case neg => exact .inl h1
  right
  obtain ⟨t, ht⟩ : ∃ t, dgO x2 = [t] := by
    match h9 : dgO x2, h1 with
    | [t], _ => exact ⟨t, rfl⟩
  refine ⟨t, ht, ?_⟩
  cases hr : inR t 0 (dgO x1).length
  · exact .inl rfl
  · refine .inr ⟨rfl, ?_⟩
    cases hp : psB (dgO x1) x3
    · rfl
    exfalso
    have hp2 := hp
    unfold psB at hp2
    rw [Bool.and_eq_true] at hp2
    have e : dgO x1 = rdL x1 := by
      unfold dgO
      split
      · rfl
      · rename_i hb
        have : dgO x1 = [] := by unfold dgO; rw [if_neg hb]
        rw [this] at hp2
        exact absurd hp2.1 (by decide)
    have ho := dg_one ht
    rw [e] at hp hr
    have : qoB x1 x2 x3 = true := by
      unfold qoB
      rw [hp, dkD_iff.2 ⟨ho.1, ho.2.1, by rw [← ho.2.2]; exact (inR_true.1 hr).2⟩]
      rfl
    rw [this] at h
    cases h


set_option maxRecDepth 100000 in
set_option maxHeartbeats 4000000 in
theorem i_questionA {x1 x2 x3 : ByteArray} {w : World} {a0 a1 : Addr} (h1 : x1.size ≤ 1048576) (h2 : x2.size ≤ 1048576) (_h3 : x3.size ≤ 1048576) (hD : DeskW w a0 a1) {X1 X2 : List Int} (HX1 : Hid (dgO x1 = X1)) (HX2 : Hid (dgO x2 = X2)) (_hl1 : X1.length ≤ 1048576) (_hl2 : X2.length ≤ 1048576) (hno : X2.length ≠ 1) :
    Calls Tryz.prog 49 #[.string x1, .string x2, .string x3] w
      (fun e w' => e = .returned (.tuple #[.agg #[.slice none 0 0, .int .i64 0, .slice none 0 0], .iface 165 (.pointer (some a0))]) ∧ Below w.heap.size w w') := by
  have hne : ((X2.length : Int) != 1) = true := by rw [bne_iff_ne]; omega
  have hbA := (Below.refl w.heap.size w).alloc (Nat.le_refl _) (.cells #[.slice none 0 0, .int .i64 0, .slice none 0 0] 83)
  have hA := heap_alloc_new w (.cells #[.slice none 0 0, .int .i64 0, .slice none 0 0] 83)
  have hlt0 := World.block_lt_of_cell? w _ hD.e0
  go_enter Tryz.func49, Tryz.ntmps49
  go_wp2_with fail
  refine (i_digitsOf (s := x1) h1).mono ?_
  rintro e w2 ⟨ma, mc, rfl, hm, b2⟩
  rw [HX1.out] at hm
  rw [HX1.out]
  have bb2 := hbA.trans (b2.mono (by simp))
  have hq2 := (b2.block w.heap.size (by simp)).trans hA
  have y2 := b2.size
  simp only [World.size_alloc] at y2 hm
  clear hA hbA b2
  go_wp2_with fail
  refine (i_digitsOf (s := x2) h2).mono ?_
  rintro e w3 ⟨ta, tc, rfl, ht, b3⟩
  rw [HX2.out] at ht
  rw [HX2.out]
  have bb3 := bb2.trans (b3.mono (by omega))
  have hq3 := (b3.block w.heap.size (by omega)).trans hq2
  have y3 := b3.size
  have hm3 := hm.ri.below b3 (Nat.le_refl _)
  clear hq2 b3 bb2 hm
  clear hm3 ht
  have hD4 := hD.below bb3 (Nat.le_refl _)
  obtain ⟨d0, d1, d2⟩ := cells3q hq3
  have f0 := frozenq hq3 0
  have f1 := frozenq hq3 1
  have f2 := frozenq hq3 2
  have e0 := hD4.e0
  obtain ⟨W5, hW5, hw5, hk5, hs5, ho5⟩ := set3w hq3 (.slice none 0 0) (.int .i64 0) (.slice none 0 0)
  have e0' : W5.cell? ⟨0, 0, none⟩ = some (.iface 165 (.pointer (some a0))) := (World.cell?_of_block (a := ⟨0, 0, none⟩) (hk5 _ (by show 0 ≠ w.heap.size; omega))).trans e0
  rw [hW5] at e0'
  have HK := Lib.hid hk5; have HO := Lib.hid ho5; have HW5 := Lib.hid hW5; have hlw := bb3.size
  clear hk5 ho5 hW5 hD4 hq3
  go_wp2_with fail
  go_region
  go_wp2
  rw [← HW5.out]
  exact bodyPost_ret (res_q _ _ w.heap.size _ _ _ _ rfl hw5) rfl ⟨rfl, bb3.trans ⟨HO.out.1, HO.out.2.1, HO.out.2.2, by show _ ≤ W5.heap.size; omega, fun k hk => HK.out k (by omega)⟩⟩

set_option maxRecDepth 100000 in
set_option maxHeartbeats 4000000 in
theorem i_questionB {x1 x2 x3 : ByteArray} {w : World} {a0 a1 : Addr} (h1 : x1.size ≤ 1048576) (h2 : x2.size ≤ 1048576) (_h3 : x3.size ≤ 1048576) (hD : DeskW w a0 a1) {X1 : List Int} {t0 : Int} (HX1 : Hid (dgO x1 = X1)) (HX2 : Hid (dgO x2 = [t0])) (hl1 : X1.length ≤ 1048576) (HR : Hid (inR t0 0 X1.length = false)) :
    Calls Tryz.prog 49 #[.string x1, .string x2, .string x3] w
      (fun e w' => e = .returned (.tuple #[.agg #[.slice none 0 0, .int .i64 0, .slice none 0 0], .iface 165 (.pointer (some a0))]) ∧ Below w.heap.size w w') := by
  have hbA := (Below.refl w.heap.size w).alloc (Nat.le_refl _) (.cells #[.slice none 0 0, .int .i64 0, .slice none 0 0] 83)
  have hA := heap_alloc_new w (.cells #[.slice none 0 0, .int .i64 0, .slice none 0 0] 83)
  have hlt0 := World.block_lt_of_cell? w _ hD.e0
  go_enter Tryz.func49, Tryz.ntmps49
  go_wp2_with fail
  refine (i_digitsOf (s := x1) h1).mono ?_
  rintro e w2 ⟨ma, mc, rfl, hm, b2⟩
  rw [HX1.out] at hm
  rw [HX1.out]
  have bb2 := hbA.trans (b2.mono (by simp))
  have hq2 := (b2.block w.heap.size (by simp)).trans hA
  have y2 := b2.size
  simp only [World.size_alloc] at y2 hm
  clear hA hbA b2
  go_wp2_with fail
  refine (i_digitsOf (s := x2) h2).mono ?_
  rintro e w3 ⟨ta, tc, rfl, ht, b3⟩
  rw [HX2.out] at ht
  rw [HX2.out]
  have bb3 := bb2.trans (b3.mono (by omega))
  have hq3 := (b3.block w.heap.size (by omega)).trans hq2
  have y3 := b3.size
  have hm3 := hm.ri.below b3 (Nat.le_refl _)
  clear hq2 b3 bb2 hm
  obtain ⟨bt, ot, xt, hta, htb1, htb2, htc, hx⟩ := ht.ri.at (k := 0) (by simp)
  obtain rfl : t0 = xt := by have := hx.out; simpa using this
  have hidx := fun wx => idxI hta (show 0 < 1 by omega) tc wx
  simp only [Nat.add_zero] at htc
  have hidx' : ∀ wx : World, (Instr.indexAt 45 (.slice ta 1 tc) (.int .i64 0)).run Tryz.prog wx = .ok (.pointer (some ⟨bt, ot, none⟩)) wx := hidx
  have hRO := Lib.hid (fun (wx : World) => i_isStrength (m := X1) (a := ma) (c := mc) (w := wx) (t := t0) (by omega))
  clear hidx hx hta ht
  go_wp2_with fail
  refine (hRO.out _).mono ?_
  rintro e w4 ⟨rfl, d4⟩
  have b4 := Dr.below d4 w3.heap.size
  have bb4 := bb3.trans (b4.mono (by omega))
  have hq4 := (b4.block w.heap.size (by omega)).trans hq3
  have hm4 := hm3.dr d4
  have y4 := b4.size
  have htc4 := (b4.cell (p := ⟨bt, ot, none⟩) (by show bt < _; omega)).trans htc
  clear b4 d4 hq3 hm3 bb3 htc
  rw [HR.out]
  clear hm4 htc4 hidx'
  have hD4 := hD.below bb4 (Nat.le_refl _)
  obtain ⟨d0, d1, d2⟩ := cells3q hq4
  have f0 := frozenq hq4 0
  have f1 := frozenq hq4 1
  have f2 := frozenq hq4 2
  have e0 := hD4.e0
  obtain ⟨W5, hW5, hw5, hk5, hs5, ho5⟩ := set3w hq4 (.slice none 0 0) (.int .i64 0) (.slice none 0 0)
  have e0' : W5.cell? ⟨0, 0, none⟩ = some (.iface 165 (.pointer (some a0))) := (World.cell?_of_block (a := ⟨0, 0, none⟩) (hk5 _ (by show 0 ≠ w.heap.size; omega))).trans e0
  rw [hW5] at e0'
  have HK := Lib.hid hk5; have HO := Lib.hid ho5; have HW5 := Lib.hid hW5; have hlw := bb4.size
  clear hk5 ho5 hW5 hD4 hq4
  go_wp2_with fail
  go_region
  go_wp2
  rw [← HW5.out]
  exact bodyPost_ret (res_q _ _ w.heap.size _ _ _ _ rfl hw5) rfl ⟨rfl, bb4.trans ⟨HO.out.1, HO.out.2.1, HO.out.2.2, by show _ ≤ W5.heap.size; omega, fun k hk => HK.out k (by omega)⟩⟩

set_option maxRecDepth 100000 in
set_option maxHeartbeats 4000000 in
theorem i_questionC {x1 x2 x3 : ByteArray} {w : World} {a0 a1 : Addr} (h1 : x1.size ≤ 1048576) (h2 : x2.size ≤ 1048576) (h3 : x3.size ≤ 1048576) (hD : DeskW w a0 a1) {X1 : List Int} {t0 : Int} (HX1 : Hid (dgO x1 = X1)) (HX2 : Hid (dgO x2 = [t0])) (hl1 : X1.length ≤ 1048576) (HR : Hid (inR t0 0 X1.length = true)) (HP : Hid (psB X1 x3 = false)) :
    Calls Tryz.prog 49 #[.string x1, .string x2, .string x3] w
      (fun e w' => e = .returned (.tuple #[.agg #[.slice none 0 0, .int .i64 0, .slice none 0 0], .iface 165 (.pointer (some a0))]) ∧ Below w.heap.size w w') := by
  have hbA := (Below.refl w.heap.size w).alloc (Nat.le_refl _) (.cells #[.slice none 0 0, .int .i64 0, .slice none 0 0] 83)
  have hA := heap_alloc_new w (.cells #[.slice none 0 0, .int .i64 0, .slice none 0 0] 83)
  have hlt0 := World.block_lt_of_cell? w _ hD.e0
  go_enter Tryz.func49, Tryz.ntmps49
  go_wp2_with fail
  refine (i_digitsOf (s := x1) h1).mono ?_
  rintro e w2 ⟨ma, mc, rfl, hm, b2⟩
  rw [HX1.out] at hm
  rw [HX1.out]
  have bb2 := hbA.trans (b2.mono (by simp))
  have hq2 := (b2.block w.heap.size (by simp)).trans hA
  have y2 := b2.size
  simp only [World.size_alloc] at y2 hm
  clear hA hbA b2
  go_wp2_with fail
  refine (i_digitsOf (s := x2) h2).mono ?_
  rintro e w3 ⟨ta, tc, rfl, ht, b3⟩
  rw [HX2.out] at ht
  rw [HX2.out]
  have bb3 := bb2.trans (b3.mono (by omega))
  have hq3 := (b3.block w.heap.size (by omega)).trans hq2
  have y3 := b3.size
  have hm3 := hm.ri.below b3 (Nat.le_refl _)
  clear hq2 b3 bb2 hm
  obtain ⟨bt, ot, xt, hta, htb1, htb2, htc, hx⟩ := ht.ri.at (k := 0) (by simp)
  obtain rfl : t0 = xt := by have := hx.out; simpa using this
  have hidx := fun wx => idxI hta (show 0 < 1 by omega) tc wx
  simp only [Nat.add_zero] at htc
  have hidx' : ∀ wx : World, (Instr.indexAt 45 (.slice ta 1 tc) (.int .i64 0)).run Tryz.prog wx = .ok (.pointer (some ⟨bt, ot, none⟩)) wx := hidx
  have hRO := Lib.hid (fun (wx : World) => i_isStrength (m := X1) (a := ma) (c := mc) (w := wx) (t := t0) (by omega))
  clear hidx hx hta ht
  go_wp2_with fail
  refine (hRO.out _).mono ?_
  rintro e w4 ⟨rfl, d4⟩
  have b4 := Dr.below d4 w3.heap.size
  have bb4 := bb3.trans (b4.mono (by omega))
  have hq4 := (b4.block w.heap.size (by omega)).trans hq3
  have hm4 := hm3.dr d4
  have y4 := b4.size
  have htc4 := (b4.cell (p := ⟨bt, ot, none⟩) (by show bt < _; omega)).trans htc
  clear b4 d4 hq3 hm3 bb3 htc
  rw [HR.out]
  clear htc4 hidx'
  go_wp2_with fail
  refine (i_ParseSuite hm4 (by omega) h3 (by omega)).mono ?_
  rintro e w6 ⟨ra, rc, rfl, hR6, b6⟩
  rw [HP.out]
  have bb6 := bb4.trans (b6.mono (by omega))
  have hq6 := (b6.block w.heap.size (by omega)).trans hq4
  have y6 := b6.size
  clear hR6 b6 bb4 hq4 hm4
  have hD4 := hD.below bb6 (Nat.le_refl _)
  obtain ⟨d0, d1, d2⟩ := cells3q hq6
  have f0 := frozenq hq6 0
  have f1 := frozenq hq6 1
  have f2 := frozenq hq6 2
  have e0 := hD4.e0
  obtain ⟨W5, hW5, hw5, hk5, hs5, ho5⟩ := set3w hq6 (.slice none 0 0) (.int .i64 0) (.slice none 0 0)
  have e0' : W5.cell? ⟨0, 0, none⟩ = some (.iface 165 (.pointer (some a0))) := (World.cell?_of_block (a := ⟨0, 0, none⟩) (hk5 _ (by show 0 ≠ w.heap.size; omega))).trans e0
  rw [hW5] at e0'
  have HK := Lib.hid hk5; have HO := Lib.hid ho5; have HW5 := Lib.hid hW5; have hlw := bb6.size
  clear hk5 ho5 hW5 hD4 hq6
  go_wp2_with fail
  go_region
  go_wp2
  rw [← HW5.out]
  exact bodyPost_ret (res_q _ _ w.heap.size _ _ _ _ rfl hw5) rfl ⟨rfl, bb6.trans ⟨HO.out.1, HO.out.2.1, HO.out.2.2, by show _ ≤ W5.heap.size; omega, fun k hk => HK.out k (by omega)⟩⟩

set_option maxRecDepth 100000 in
set_option maxHeartbeats 4000000 in
theorem i_questionY {x1 x2 x3 : ByteArray} {w : World} {a0 a1 : Addr} (h1 : x1.size ≤ 1048576) (h2 : x2.size ≤ 1048576) (h3 : x3.size ≤ 1048576) (hD : DeskW w a0 a1) {X1 : List Int} {t0 : Int} (HX1 : Hid (dgO x1 = X1)) (HX2 : Hid (dgO x2 = [t0])) (hl1 : X1.length ≤ 1048576) (HR : Hid (inR t0 0 X1.length = true)) (HP : Hid (psB X1 x3 = true)) :
    Calls Tryz.prog 49 #[.string x1, .string x2, .string x3] w
    (fun e w' => ∃ a c a' c', e = .returned (.tuple #[.agg #[.slice a X1.length c, .int .i64 t0, .slice a' (psR x3).length c'], .nilIface]) ∧ RI w' w.heap.size w'.heap.size a X1 ∧ RIIc w' w.heap.size w'.heap.size a' c' (psR x3) ∧ Below w.heap.size w w') := by
  have HPL := Lib.hid (ps_yes HP.out).1
  have hbA := (Below.refl w.heap.size w).alloc (Nat.le_refl _) (.cells #[.slice none 0 0, .int .i64 0, .slice none 0 0] 83)
  have hA := heap_alloc_new w (.cells #[.slice none 0 0, .int .i64 0, .slice none 0 0] 83)
  have hlt0 := World.block_lt_of_cell? w _ hD.e0
  go_enter Tryz.func49, Tryz.ntmps49
  go_wp2_with fail
  refine (i_digitsOf (s := x1) h1).mono ?_
  rintro e w2 ⟨ma, mc, rfl, hm, b2⟩
  rw [HX1.out] at hm
  rw [HX1.out]
  have bb2 := hbA.trans (b2.mono (by simp))
  have hq2 := (b2.block w.heap.size (by simp)).trans hA
  have y2 := b2.size
  simp only [World.size_alloc] at y2 hm
  clear hA hbA b2
  go_wp2_with fail
  refine (i_digitsOf (s := x2) h2).mono ?_
  rintro e w3 ⟨ta, tc, rfl, ht, b3⟩
  rw [HX2.out] at ht
  rw [HX2.out]
  have bb3 := bb2.trans (b3.mono (by omega))
  have hq3 := (b3.block w.heap.size (by omega)).trans hq2
  have y3 := b3.size
  have hm3 := hm.ri.below b3 (Nat.le_refl _)
  clear hq2 b3 bb2 hm
  obtain ⟨bt, ot, xt, hta, htb1, htb2, htc, hx⟩ := ht.ri.at (k := 0) (by simp)
  obtain rfl : t0 = xt := by have := hx.out; simpa using this
  have hidx := fun wx => idxI hta (show 0 < 1 by omega) tc wx
  simp only [Nat.add_zero] at htc
  have hidx' : ∀ wx : World, (Instr.indexAt 45 (.slice ta 1 tc) (.int .i64 0)).run Tryz.prog wx = .ok (.pointer (some ⟨bt, ot, none⟩)) wx := hidx
  have hRO := Lib.hid (fun (wx : World) => i_isStrength (m := X1) (a := ma) (c := mc) (w := wx) (t := t0) (by omega))
  clear hidx hx hta ht
  go_wp2_with fail
  refine (hRO.out _).mono ?_
  rintro e w4 ⟨rfl, d4⟩
  have b4 := Dr.below d4 w3.heap.size
  have bb4 := bb3.trans (b4.mono (by omega))
  have hq4 := (b4.block w.heap.size (by omega)).trans hq3
  have hm4 := hm3.dr d4
  have y4 := b4.size
  have htc4 := (b4.cell (p := ⟨bt, ot, none⟩) (by show bt < _; omega)).trans htc
  clear b4 d4 hq3 hm3 bb3 htc
  rw [HR.out]
  go_wp2_with fail
  refine (i_ParseSuite hm4 (by omega) h3 (by omega)).mono ?_
  rintro e w6 ⟨ra, rc, rfl, hR6, b6⟩
  rw [HPL.out] at hR6
  rw [HP.out, HPL.out]
  have bb6 := bb4.trans (b6.mono (by omega))
  have hq6 := (b6.block w.heap.size (by omega)).trans hq4
  have y6 := b6.size
  have htc6 := (b6.cell (p := ⟨bt, ot, none⟩) (by show bt < _; omega)).trans htc4
  have hm6 := hm4.below b6 (by omega)
  clear b6 bb4 hq4 hm4 htc4
  obtain ⟨d0, d1, d2⟩ := cells3q hq6
  have f0 := frozenq hq6 0
  have f1 := frozenq hq6 1
  have f2 := frozenq hq6 2
  obtain ⟨W5, hW5, hw5, hk5, hs5, ho5⟩ := set3w hq6 (.slice ma X1.length mc) (.int .i64 t0) (.slice ra (psR x3).length rc)
  have HK := Lib.hid hk5; have HO := Lib.hid ho5; have HW5 := Lib.hid hW5; have hlw := bb6.size
  clear hk5 ho5 hW5 hq6
  go_wp2
  rw [← HW5.out]
  refine bodyPost_ret (res_q _ _ w.heap.size _ _ _ _ rfl hw5) rfl ⟨ma, mc, ra, rc, rfl, ?_, ?_, bb6.trans ⟨HO.out.1, HO.out.2.1, HO.out.2.2, by show _ ≤ W5.heap.size; omega, fun k hk => HK.out k (by omega)⟩⟩
  · exact (hm6.same (w' := W5) fun k k1 _ => HK.out k (by omega)).wide (by omega) (by omega)
  · have h := hR6.oii.same (w' := W5) fun k k1 _ => HK.out k (by omega)
    exact ⟨h.rii.wide (by omega) (by omega), hR6.cap⟩

/- The desk of the program: a line tried. -/
open Go.RowKit

theorem eqlNN (w : World) : (binOp .eql 80 .nilFunc .nilFunc).run Tryz.prog w = .ok (.bool true) w := by kernel_rfl
theorem eqlFN (f : FuncId) (w : World) : (binOp .eql 80 (.func (.func f) #[] #[]) .nilFunc).run Tryz.prog w = .ok (.bool false) w := by kernel_rfl
theorem dBelowA {w w1 : World} (h : Below w.heap.size w w1) (o : Obj) : Below w.heap.size w (w1.alloc o) := h.alloc h.size o
theorem dBelowD {w w1 : World} (h : Below w.heap.size w w1) : Below w.heap.size w w1.drew := h.drew
theorem dBelowS {w0 w1 w2 : World} (h : Below w0.heap.size w0 w1) (k : Below w1.heap.size w1 w2) : Below w0.heap.size w0 w2 := h.trans (k.mono h.size)
theorem zqD {v0 v1 : World} {o : Obj} (h : Below (v0.alloc o).drew.heap.size (v0.alloc o).drew v1) : Hid (v1.heap[v0.heap.size]? = some o) :=
  (h.block v0.heap.size (by show _ < (v0.alloc o).heap.size; simp)).trans (heap_alloc_new v0 _)
/-- behind a drawn region: a box made last or ahead, filled -/
theorem leafDq {v0 v3 : World} (x y z : Value) (h : Below v0.heap.size v0 v3) : ∃ (w4 : World) (q : Nat), w4 = v3.alloc (.cells #[x, y, z] 83) ∧ q = v3.heap.size ∧ w4.heap[q]? = some (.cells #[x, y, z] 83 (0, 0)) ∧ Below v0.heap.size v0 w4 ∧ (∀ k, k ≠ q → w4.heap[k]? = v3.heap[k]?) ∧ v3.heap.size ≤ w4.heap.size :=
  ⟨_, _, rfl, rfl, heap_alloc_new v3 _, h.alloc h.size _, fun k hk => by
    rcases Nat.lt_or_ge k v3.heap.size with h1 | h1
    · exact ((Below.refl v3.heap.size v3).alloc (Nat.le_refl _) _).block k h1
    · rw [Array.getElem?_eq_none (by simp; omega), Array.getElem?_eq_none h1], by simp⟩
theorem ltAD (v : World) (o : Obj) : v.heap.size < (v.alloc o).drew.heap.size := by show _ < (v.alloc o).heap.size; simp
theorem leafSq {v0 v3 : World} {p : Nat} {x0 y0 z0 : Value} (x y z : Value) (h : Below v0.heap.size v0 v3) (hb : Hid (v3.heap[p]? = some (.cells #[x0, y0, z0] 83 (0, 0)))) (hp : v0.heap.size ≤ p) :
    ∃ (w4 : World) (q : Nat), w4 = (((v3.setCell ⟨p, 0, none⟩ x).setCell ⟨p, 1, none⟩ y).setCell ⟨p, 2, none⟩ z) ∧ q = p ∧ w4.heap[q]? = some (.cells #[x, y, z] 83 (0, 0)) ∧ Below v0.heap.size v0 w4 ∧ (∀ k, k ≠ q → w4.heap[k]? = v3.heap[k]?) ∧ v3.heap.size ≤ w4.heap.size := by
  obtain ⟨W, hW, h1, h2, h3, h4⟩ := set3w hb.out x y z
  exact ⟨W, p, hW, rfl, h1, h.trans ⟨h4.1, h4.2.1, h4.2.2, by omega, fun k hk => h2 k (by omega)⟩, h2, by omega⟩
theorem qset {w : World} {b o q : Nat} {v x y z : Value} (hne : b ≠ q) (h : w.cell? ⟨b, o, none⟩ = some v) : (((w.setCell ⟨q, 0, none⟩ x).setCell ⟨q, 1, none⟩ y).setCell ⟨q, 2, none⟩ z).cell? ⟨b, o, none⟩ = some v :=
  (World.cell?_of_block (a := ⟨b, o, none⟩) ((Below.heap_setCell _ _ _ _ hne).trans ((Below.heap_setCell _ _ _ _ hne).trans (Below.heap_setCell _ _ _ _ hne)))).trans h
/-- what a line's trial gives -/
def tryR (w : World) (s : ByteArray) (v : Value) (e : Ending) (w' : World) : Prop := e = .returned (.tuple #[.string s, v]) ∧ Below w.heap.size w w'
theorem split_cells {X : List ByteArray} {w : World} {k : Nat} {p : ByteArray} (hp : X[k]? = some p) : (w.alloc (.cells (X.map Value.string).toArray 9)).cell? ⟨w.heap.size, k, none⟩ = some (.string p) := by
  rw [cell_of_row _ _ k _ _ _ (heap_alloc_new _ _)]; simp [hp]

set_option maxRecDepth 100000 in
set_option maxHeartbeats 4000000 in
theorem i_tryNone {line x0 : ByteArray} {X : List ByteArray} {w : World} {a0 a1 : Addr} (hs : line.size ≤ 1048576) (HX : Hid (pcs 32 line = x0 :: X)) (hc : dkC x0 false false false) (hD : DeskW w a0 a1) :
    Calls Tryz.prog 34 #[.string line] w (tryR w ⟨#[]⟩ (.iface 165 (.pointer (some a1)))) := by
  have hsp := x_Split1 line 32 w (by omega)
  rw [HX.out] at hsp
  have HSP := Lib.hid hsp
  have HC := Lib.hid hc
  have hbA := (Below.refl w.heap.size w).alloc (Nat.le_refl _) (.cells ((x0 :: X).map Value.string).toArray 9)
  have hD1 := hD.below hbA (Nat.le_refl _)
  have k0 := split_cells (X := x0 :: X) (w := w) (k := 0) (p := x0) rfl
  have i0 := fun wx => idxSt (a := some ⟨w.heap.size, 0, none⟩) (len := (x0 :: X).length) (k := 0) rfl (by simp) (x0 :: X).length wx
  simp only [Nat.add_zero] at i0
  obtain ⟨n, hn⟩ : ∃ n, (x0 :: X).length = n := ⟨_, rfl⟩
  rw [hn] at i0
  have i0' : ∀ wx : World, (Instr.indexAt 22 (.slice (some ⟨w.heap.size, 0, none⟩) n n) (.int .i64 0)).run Tryz.prog wx = .ok (.pointer (some ⟨w.heap.size, 0, none⟩)) wx := i0
  have HN := Lib.hid hn
  have e1 := hD1.e1
  clear hsp hn i0 hD
  have nn := eqlNN
  go_enter Tryz.func34, Tryz.ntmps34
  go_wp2_with fail
  refine (HSP.out).mono ?_
  rintro e w1 ⟨rfl, hw1⟩
  rw [HN.out]
  rw [← hw1] at k0 e1 hbA
  have HW := Lib.hid hw1
  clear hw1 hD1
  go_wp2_with fail
  refine (i_answerOf3 HC.out).mono ?_
  rintro e w2 ⟨rfl, rfl⟩
  go_wp2_with fail
  go_region
  go_wp2
  go_ret2
  exact ⟨rfl, by first | exact hbA.drew | exact hbA⟩

set_option maxRecDepth 100000 in
set_option maxHeartbeats 4000000 in
theorem i_tryLen {line x0 : ByteArray} {X : List ByteArray} {w : World} {a0 a1 : Addr} {fq : FuncId} (hs : line.size ≤ 1048576) (HX : Hid (pcs 32 line = x0 :: X)) (h4 : (x0 :: X).length ≠ 4) (HA : Hid (∀ w, Calls Tryz.prog 48 #[.string x0] w fun e w' => e = .returned (.func (.func fq) #[] #[]) ∧ w' = w)) (hD : DeskW w a0 a1) :
    Calls Tryz.prog 34 #[.string line] w (tryR w ⟨#[]⟩ (.iface 165 (.pointer (some a1)))) := by
  have hsp := x_Split1 line 32 w (by omega)
  rw [HX.out] at hsp
  have HSP := Lib.hid hsp
  have hbA := (Below.refl w.heap.size w).alloc (Nat.le_refl _) (.cells ((x0 :: X).map Value.string).toArray 9)
  have hD1 := hD.below hbA (Nat.le_refl _)
  have k0 := split_cells (X := x0 :: X) (w := w) (k := 0) (p := x0) rfl
  have i0 := fun wx => idxSt (a := some ⟨w.heap.size, 0, none⟩) (len := (x0 :: X).length) (k := 0) rfl (by simp) (x0 :: X).length wx
  simp only [Nat.add_zero] at i0
  obtain ⟨n, hn⟩ : ∃ n, (x0 :: X).length = n := ⟨_, rfl⟩
  rw [hn] at i0 h4
  have i0' : ∀ wx : World, (Instr.indexAt 22 (.slice (some ⟨w.heap.size, 0, none⟩) n n) (.int .i64 0)).run Tryz.prog wx = .ok (.pointer (some ⟨w.heap.size, 0, none⟩)) wx := i0
  have HN := Lib.hid hn
  have hne : ((n : Int) != 4) = true := by rw [bne_iff_ne]; omega
  have e1 := hD1.e1
  have fn := eqlFN fq
  clear hsp hn i0 hD h4
  go_enter Tryz.func34, Tryz.ntmps34
  go_wp2_with fail
  refine (HSP.out).mono ?_
  rintro e w1 ⟨rfl, hw1⟩
  rw [HN.out]
  rw [← hw1] at k0 e1 hbA
  have HW := Lib.hid hw1
  clear hw1 hD1
  go_wp2_with fail
  refine (HA.out w1).mono ?_
  rintro e w2 ⟨rfl, rfl⟩
  go_wp2_with fail
  go_region
  go_wp2
  go_ret2
  exact ⟨rfl, by first | exact hbA.drew | exact hbA⟩

set_option maxRecDepth 100000 in
set_option maxHeartbeats 8000000 in
theorem i_tryWrong {line x0 x1 x2 x3 : ByteArray} {w : World} {a0 a1 : Addr} {fq : FuncId} (hs : line.size ≤ 1048576) (HX : Hid (pcs 32 line = [x0, x1, x2, x3])) (HA : Hid (∀ w, Calls Tryz.prog 48 #[.string x0] w fun e w' => e = .returned (.func (.func fq) #[] #[]) ∧ w' = w)) (hD : DeskW w a0 a1)
    (HQ : Hid (∀ w', DeskW w' a0 a1 → Calls Tryz.prog 49 #[.string x1, .string x2, .string x3] w' (fun e w'' => e = .returned (.tuple #[.agg #[.slice none 0 0, .int .i64 0, .slice none 0 0], .iface 165 (.pointer (some a0))]) ∧ Below w'.heap.size w' w''))) :
    Calls Tryz.prog 34 #[.string line] w (tryR w ⟨#[]⟩ (.iface 165 (.pointer (some a0)))) := by
  have hsp := x_Split1 line 32 w (by omega)
  rw [HX.out] at hsp
  have HSP := Lib.hid hsp
  have hbA := (Below.refl w.heap.size w).alloc (Nat.le_refl _) (.cells (([x0, x1, x2, x3]).map Value.string).toArray 9)
  have hD1 := hD.below hbA (Nat.le_refl _)
  have k0 := split_cells (X := [x0, x1, x2, x3]) (w := w) (k := 0) (p := x0) rfl
  have k1 := split_cells (X := [x0, x1, x2, x3]) (w := w) (k := 1) (p := x1) rfl
  have k2 := split_cells (X := [x0, x1, x2, x3]) (w := w) (k := 2) (p := x2) rfl
  have k3 := split_cells (X := [x0, x1, x2, x3]) (w := w) (k := 3) (p := x3) rfl
  have i0 : ∀ wx : World, (Instr.indexAt 22 (.slice (some ⟨w.heap.size, 0, none⟩) 4 4) (.int .i64 0)).run Tryz.prog wx = .ok (.pointer (some ⟨w.heap.size, 0, none⟩)) wx := fun wx => idxSt (a := some ⟨w.heap.size, 0, none⟩) (len := 4) (k := 0) rfl (by omega) 4 wx
  have i1 : ∀ wx : World, (Instr.indexAt 22 (.slice (some ⟨w.heap.size, 0, none⟩) 4 4) (.int .i64 1)).run Tryz.prog wx = .ok (.pointer (some ⟨w.heap.size, 1, none⟩)) wx := fun wx => by have h := idxSt (a := some ⟨w.heap.size, 0, none⟩) (len := 4) (k := 1) rfl (by omega) 4 wx; simpa using h
  have i2 : ∀ wx : World, (Instr.indexAt 22 (.slice (some ⟨w.heap.size, 0, none⟩) 4 4) (.int .i64 2)).run Tryz.prog wx = .ok (.pointer (some ⟨w.heap.size, 2, none⟩)) wx := fun wx => by have h := idxSt (a := some ⟨w.heap.size, 0, none⟩) (len := 4) (k := 2) rfl (by omega) 4 wx; simpa using h
  have i3 : ∀ wx : World, (Instr.indexAt 22 (.slice (some ⟨w.heap.size, 0, none⟩) 4 4) (.int .i64 3)).run Tryz.prog wx = .ok (.pointer (some ⟨w.heap.size, 3, none⟩)) wx := fun wx => by have h := idxSt (a := some ⟨w.heap.size, 0, none⟩) (len := 4) (k := 3) rfl (by omega) 4 wx; simpa using h
  have fn := eqlFN fq
  clear hsp hD
  go_enter Tryz.func34, Tryz.ntmps34
  go_wp2_with fail
  refine (HSP.out).mono ?_
  rintro e w1 ⟨rfl, hw1⟩
  rw [← hw1] at k0 k1 k2 k3 hbA hD1
  have hz1 : w1.heap.size = w.heap.size + 1 := by rw [hw1]; simp
  clear hw1
  go_wp2_with fail
  refine (HA.out w1).mono ?_
  rintro e w2 ⟨rfl, rfl⟩
  have HS : Hid (∀ w', Below w2.heap.size w2 w' → w'.cell? ⟨w.heap.size, 1, none⟩ = some (.string x1) ∧ w'.cell? ⟨w.heap.size, 2, none⟩ = some (.string x2) ∧ w'.cell? ⟨w.heap.size, 3, none⟩ = some (.string x3)) := fun w' hb =>
    ⟨(hb.cell (p := ⟨w.heap.size, 1, none⟩) (by show w.heap.size < _; omega)).trans k1, (hb.cell (p := ⟨w.heap.size, 2, none⟩) (by show w.heap.size < _; omega)).trans k2, (hb.cell (p := ⟨w.heap.size, 3, none⟩) (by show w.heap.size < _; omega)).trans k3⟩
  have HQ2 : Hid (∀ w', Below w2.heap.size w2 w' → Calls Tryz.prog 49 #[.string x1, .string x2, .string x3] w' (fun e w'' => e = .returned (.tuple #[.agg #[.slice none 0 0, .int .i64 0, .slice none 0 0], .iface 165 (.pointer (some a0))]) ∧ Below w'.heap.size w' w'')) := fun w' hb => HQ.out w' (hD1.below hb (Nat.le_refl _))
  have hq0 : Below w2.heap.size w2 w2 := Below.refl _ _
  have HZ := Lib.hid hz1
  clear k0 k1 k2 k3 hD1 hz1
  go_wp2_with fail
  go_region_held3 (fun w' => w'.cell? ⟨w.heap.size, 1, none⟩ = some (.string x1) ∧ w'.cell? ⟨w.heap.size, 2, none⟩ = some (.string x2) ∧ w'.cell? ⟨w.heap.size, 3, none⟩ = some (.string x3)) (first | (refine HS.out _ ?_; (repeat (first | with_reducible exact hq1 | with_reducible exact hq0 | with_reducible refine dBelowA ?_ _ | with_reducible refine dBelowD ?_)); done) | (have hh := HS.out _ hq1; exact ⟨qset (by have := HZ.out; omega) hh.1, qset (by have := HZ.out; omega) hh.2.1, qset (by have := HZ.out; omega) hh.2.2⟩) | go_keep) ((first
    | (go_at_call 49; refine (HQ2.out _ (by (repeat (first | with_reducible exact hq0 | with_reducible refine dBelowA ?_ _ | with_reducible refine dBelowD ?_)))).mono ?_; rintro e v1 ⟨rfl, hbP⟩; have hq1 : Below w2.heap.size w2 v1 := dBelowS (by (repeat (first | with_reducible exact hq0 | with_reducible refine dBelowA ?_ _ | with_reducible refine dBelowD ?_))) hbP; try (have hbx1 : Hid (v1.heap[w2.heap.size]? = some (.cells #[.slice none 0 0, .int .i64 0, .slice none 0 0] 83 (0, 0))) := zqD (v0 := w2) hbP; obtain ⟨d0, d1, d2⟩ := cells3q hbx1.out; have f0 := frozenq hbx1.out 0; have f1 := frozenq hbx1.out 1; have f2 := frozenq hbx1.out 2))
    | fail))
  all_goals
    first
      | (obtain ⟨u4, q, hu4, hq, hbox, hq4, hkk, hks⟩ := leafDq (.slice none 0 0) (.int .i64 0) (.slice none 0 0) hq1; rw [← hu4, ← hq])
      | (obtain ⟨u4, q, hu4, hq, hbox, hq4, hkk, hks⟩ := leafSq (.slice none 0 0) (.int .i64 0) (.slice none 0 0) hq1 hbx1 (Nat.le_refl _); rw [← hu4, ← hq])
    clear hu4 hq hbP hq1 HS HQ2 hkk hks
    go_wp2
    go_ret2
    exact ⟨rfl, hbA.trans (hq4.mono hbA.size)⟩

set_option maxRecDepth 100000 in
set_option maxHeartbeats 8000000 in
theorem i_tryYes0 {line x0 x1 x2 x3 : ByteArray} {w : World} {a0 a1 : Addr} (hs : line.size ≤ 1048576) (HX : Hid (pcs 32 line = [x0, x1, x2, x3])) (HA : Hid (∀ w, Calls Tryz.prog 48 #[.string x0] w fun e w' => e = .returned (.func (.func 58) #[] #[]) ∧ w' = w)) (hD : DeskW w a0 a1)
    {m : List Int} {L : List (List Int)} {t : Int} {V : ByteArray}
    (HQ : Hid (∀ w', DeskW w' a0 a1 → Calls Tryz.prog 49 #[.string x1, .string x2, .string x3] w' (fun e w'' => ∃ a c a' c', e = .returned (.tuple #[.agg #[.slice a m.length c, .int .i64 t, .slice a' L.length c'], .nilIface]) ∧ RI w'' w'.heap.size w''.heap.size a m ∧ RIIc w'' w'.heap.size w''.heap.size a' c' L ∧ Below w'.heap.size w' w'')))
    (HF : Hid (∀ w' lo hi a c a' c', DeskW w' a0 a1 → RI w' lo hi a m → RIIc w' lo hi a' c' L → hi ≤ w'.heap.size → Calls Tryz.prog 58 #[.agg #[.slice a m.length c, .int .i64 t, .slice a' L.length c']] w' (NewV w' (.string V)))) :
    Calls Tryz.prog 34 #[.string line] w (tryR w V .nilIface) := by
  have hsp := x_Split1 line 32 w (by omega)
  rw [HX.out] at hsp
  have HSP := Lib.hid hsp
  have hbA := (Below.refl w.heap.size w).alloc (Nat.le_refl _) (.cells (([x0, x1, x2, x3]).map Value.string).toArray 9)
  have hD1 := hD.below hbA (Nat.le_refl _)
  have k0 := split_cells (X := [x0, x1, x2, x3]) (w := w) (k := 0) (p := x0) rfl
  have k1 := split_cells (X := [x0, x1, x2, x3]) (w := w) (k := 1) (p := x1) rfl
  have k2 := split_cells (X := [x0, x1, x2, x3]) (w := w) (k := 2) (p := x2) rfl
  have k3 := split_cells (X := [x0, x1, x2, x3]) (w := w) (k := 3) (p := x3) rfl
  have i0 : ∀ wx : World, (Instr.indexAt 22 (.slice (some ⟨w.heap.size, 0, none⟩) 4 4) (.int .i64 0)).run Tryz.prog wx = .ok (.pointer (some ⟨w.heap.size, 0, none⟩)) wx := fun wx => idxSt (a := some ⟨w.heap.size, 0, none⟩) (len := 4) (k := 0) rfl (by omega) 4 wx
  have i1 : ∀ wx : World, (Instr.indexAt 22 (.slice (some ⟨w.heap.size, 0, none⟩) 4 4) (.int .i64 1)).run Tryz.prog wx = .ok (.pointer (some ⟨w.heap.size, 1, none⟩)) wx := fun wx => by have h := idxSt (a := some ⟨w.heap.size, 0, none⟩) (len := 4) (k := 1) rfl (by omega) 4 wx; simpa using h
  have i2 : ∀ wx : World, (Instr.indexAt 22 (.slice (some ⟨w.heap.size, 0, none⟩) 4 4) (.int .i64 2)).run Tryz.prog wx = .ok (.pointer (some ⟨w.heap.size, 2, none⟩)) wx := fun wx => by have h := idxSt (a := some ⟨w.heap.size, 0, none⟩) (len := 4) (k := 2) rfl (by omega) 4 wx; simpa using h
  have i3 : ∀ wx : World, (Instr.indexAt 22 (.slice (some ⟨w.heap.size, 0, none⟩) 4 4) (.int .i64 3)).run Tryz.prog wx = .ok (.pointer (some ⟨w.heap.size, 3, none⟩)) wx := fun wx => by have h := idxSt (a := some ⟨w.heap.size, 0, none⟩) (len := 4) (k := 3) rfl (by omega) 4 wx; simpa using h
  have fn := eqlFN 58
  clear hsp hD
  go_enter Tryz.func34, Tryz.ntmps34
  go_wp2_with fail
  refine (HSP.out).mono ?_
  rintro e w1 ⟨rfl, hw1⟩
  rw [← hw1] at k0 k1 k2 k3 hbA hD1
  have hz1 : w1.heap.size = w.heap.size + 1 := by rw [hw1]; simp
  clear hw1
  go_wp2_with fail
  refine (HA.out w1).mono ?_
  rintro e w2 ⟨rfl, rfl⟩
  have HS : Hid (∀ w', Below w2.heap.size w2 w' → w'.cell? ⟨w.heap.size, 1, none⟩ = some (.string x1) ∧ w'.cell? ⟨w.heap.size, 2, none⟩ = some (.string x2) ∧ w'.cell? ⟨w.heap.size, 3, none⟩ = some (.string x3)) := fun w' hb =>
    ⟨(hb.cell (p := ⟨w.heap.size, 1, none⟩) (by show w.heap.size < _; omega)).trans k1, (hb.cell (p := ⟨w.heap.size, 2, none⟩) (by show w.heap.size < _; omega)).trans k2, (hb.cell (p := ⟨w.heap.size, 3, none⟩) (by show w.heap.size < _; omega)).trans k3⟩
  have HD2 := Lib.hid hD1
  have HQ2 : Hid (∀ w', Below w2.heap.size w2 w' → Calls Tryz.prog 49 #[.string x1, .string x2, .string x3] w' (fun e w'' => ∃ a c a' c', e = .returned (.tuple #[.agg #[.slice a m.length c, .int .i64 t, .slice a' L.length c'], .nilIface]) ∧ RI w'' w'.heap.size w''.heap.size a m ∧ RIIc w'' w'.heap.size w''.heap.size a' c' L ∧ Below w'.heap.size w' w'')) := fun w' hb => HQ.out w' (hD1.below hb (Nat.le_refl _))
  have hq0 : Below w2.heap.size w2 w2 := Below.refl _ _
  have HZ := Lib.hid hz1
  clear k0 k1 k2 k3 hD1 hz1
  go_wp2_with fail
  go_region_held3 (fun w' => w'.cell? ⟨w.heap.size, 1, none⟩ = some (.string x1) ∧ w'.cell? ⟨w.heap.size, 2, none⟩ = some (.string x2) ∧ w'.cell? ⟨w.heap.size, 3, none⟩ = some (.string x3)) (first | (refine HS.out _ ?_; (repeat (first | with_reducible exact hq1 | with_reducible exact hq0 | with_reducible refine dBelowA ?_ _ | with_reducible refine dBelowD ?_)); done) | (have hh := HS.out _ hq1; exact ⟨qset (by have := HZ.out; omega) hh.1, qset (by have := HZ.out; omega) hh.2.1, qset (by have := HZ.out; omega) hh.2.2⟩) | go_keep) ((first
    | (go_at_call 49; refine (HQ2.out _ (by (repeat (first | with_reducible exact hq0 | with_reducible refine dBelowA ?_ _ | with_reducible refine dBelowD ?_)))).mono ?_; rintro e v1 ⟨ma, mc, la, lc, rfl, hmP, hlP, hbP⟩; have hq1 : Below w2.heap.size w2 v1 := dBelowS (by (repeat (first | with_reducible exact hq0 | with_reducible refine dBelowA ?_ _ | with_reducible refine dBelowD ?_))) hbP; try (have hbx1 : Hid (v1.heap[w2.heap.size]? = some (.cells #[.slice none 0 0, .int .i64 0, .slice none 0 0] 83 (0, 0))) := zqD (v0 := w2) hbP; obtain ⟨d0, d1, d2⟩ := cells3q hbx1.out; have f0 := frozenq hbx1.out 0; have f1 := frozenq hbx1.out 1; have f2 := frozenq hbx1.out 2))
    | fail))
  all_goals
    first
      | (obtain ⟨u4, q, hu4, hq, hbox, hq4, hkk, hks⟩ := leafDq (.slice ma m.length mc) (.int .i64 t) (.slice la L.length lc) hq1; rw [← hu4, ← hq])
      | (obtain ⟨u4, q, hu4, hq, hbox, hq4, hkk, hks⟩ := leafSq (.slice ma m.length mc) (.int .i64 t) (.slice la L.length lc) hq1 hbx1 (Nat.le_refl _); rw [← hu4, ← hq])
    obtain ⟨d0, d1, d2⟩ := cells3q hbox
    have hD4 := HD2.out.below hq4 (Nat.le_refl _)
    have hm4 := hmP.same (w' := u4) fun k k1 k2 => hkk k (by first | omega | (have := Nat.lt_of_lt_of_le (ltAD w2 _) k1; omega))
    have hl4 : RIIc u4 _ v1.heap.size la lc L := ⟨hlP.rii.same (w' := u4) fun k k1 k2 => hkk k (by first | omega | (have := Nat.lt_of_lt_of_le (ltAD w2 _) k1; omega)), hlP.cap⟩
    clear hu4 hq hbP hq1 HS HQ2 hkk hmP hlP
    go_wp2_with fail
    refine (HF.out u4 _ v1.heap.size _ _ _ _ hD4 hm4 hl4 hks).mono ?_
    rintro e w6 ⟨rfl, b6⟩
    have hb6 := (hbA.trans (hq4.mono hbA.size)).trans (b6.mono (Nat.le_trans hbA.size hq4.size))
    go_wp2
    go_ret2
    exact ⟨rfl, hb6⟩

set_option maxRecDepth 100000 in
set_option maxHeartbeats 8000000 in
theorem i_tryYes1 {line x0 x1 x2 x3 : ByteArray} {w : World} {a0 a1 : Addr} (hs : line.size ≤ 1048576) (HX : Hid (pcs 32 line = [x0, x1, x2, x3])) (HA : Hid (∀ w, Calls Tryz.prog 48 #[.string x0] w fun e w' => e = .returned (.func (.func 59) #[] #[]) ∧ w' = w)) (hD : DeskW w a0 a1)
    {m : List Int} {L : List (List Int)} {t : Int} {V : ByteArray}
    (HQ : Hid (∀ w', DeskW w' a0 a1 → Calls Tryz.prog 49 #[.string x1, .string x2, .string x3] w' (fun e w'' => ∃ a c a' c', e = .returned (.tuple #[.agg #[.slice a m.length c, .int .i64 t, .slice a' L.length c'], .nilIface]) ∧ RI w'' w'.heap.size w''.heap.size a m ∧ RIIc w'' w'.heap.size w''.heap.size a' c' L ∧ Below w'.heap.size w' w'')))
    (HF : Hid (∀ w' lo hi a c a' c', DeskW w' a0 a1 → RI w' lo hi a m → RIIc w' lo hi a' c' L → hi ≤ w'.heap.size → Calls Tryz.prog 59 #[.agg #[.slice a m.length c, .int .i64 t, .slice a' L.length c']] w' (NewV w' (.string V)))) :
    Calls Tryz.prog 34 #[.string line] w (tryR w V .nilIface) := by
  have hsp := x_Split1 line 32 w (by omega)
  rw [HX.out] at hsp
  have HSP := Lib.hid hsp
  have hbA := (Below.refl w.heap.size w).alloc (Nat.le_refl _) (.cells (([x0, x1, x2, x3]).map Value.string).toArray 9)
  have hD1 := hD.below hbA (Nat.le_refl _)
  have k0 := split_cells (X := [x0, x1, x2, x3]) (w := w) (k := 0) (p := x0) rfl
  have k1 := split_cells (X := [x0, x1, x2, x3]) (w := w) (k := 1) (p := x1) rfl
  have k2 := split_cells (X := [x0, x1, x2, x3]) (w := w) (k := 2) (p := x2) rfl
  have k3 := split_cells (X := [x0, x1, x2, x3]) (w := w) (k := 3) (p := x3) rfl
  have i0 : ∀ wx : World, (Instr.indexAt 22 (.slice (some ⟨w.heap.size, 0, none⟩) 4 4) (.int .i64 0)).run Tryz.prog wx = .ok (.pointer (some ⟨w.heap.size, 0, none⟩)) wx := fun wx => idxSt (a := some ⟨w.heap.size, 0, none⟩) (len := 4) (k := 0) rfl (by omega) 4 wx
  have i1 : ∀ wx : World, (Instr.indexAt 22 (.slice (some ⟨w.heap.size, 0, none⟩) 4 4) (.int .i64 1)).run Tryz.prog wx = .ok (.pointer (some ⟨w.heap.size, 1, none⟩)) wx := fun wx => by have h := idxSt (a := some ⟨w.heap.size, 0, none⟩) (len := 4) (k := 1) rfl (by omega) 4 wx; simpa using h
  have i2 : ∀ wx : World, (Instr.indexAt 22 (.slice (some ⟨w.heap.size, 0, none⟩) 4 4) (.int .i64 2)).run Tryz.prog wx = .ok (.pointer (some ⟨w.heap.size, 2, none⟩)) wx := fun wx => by have h := idxSt (a := some ⟨w.heap.size, 0, none⟩) (len := 4) (k := 2) rfl (by omega) 4 wx; simpa using h
  have i3 : ∀ wx : World, (Instr.indexAt 22 (.slice (some ⟨w.heap.size, 0, none⟩) 4 4) (.int .i64 3)).run Tryz.prog wx = .ok (.pointer (some ⟨w.heap.size, 3, none⟩)) wx := fun wx => by have h := idxSt (a := some ⟨w.heap.size, 0, none⟩) (len := 4) (k := 3) rfl (by omega) 4 wx; simpa using h
  have fn := eqlFN 59
  clear hsp hD
  go_enter Tryz.func34, Tryz.ntmps34
  go_wp2_with fail
  refine (HSP.out).mono ?_
  rintro e w1 ⟨rfl, hw1⟩
  rw [← hw1] at k0 k1 k2 k3 hbA hD1
  have hz1 : w1.heap.size = w.heap.size + 1 := by rw [hw1]; simp
  clear hw1
  go_wp2_with fail
  refine (HA.out w1).mono ?_
  rintro e w2 ⟨rfl, rfl⟩
  have HS : Hid (∀ w', Below w2.heap.size w2 w' → w'.cell? ⟨w.heap.size, 1, none⟩ = some (.string x1) ∧ w'.cell? ⟨w.heap.size, 2, none⟩ = some (.string x2) ∧ w'.cell? ⟨w.heap.size, 3, none⟩ = some (.string x3)) := fun w' hb =>
    ⟨(hb.cell (p := ⟨w.heap.size, 1, none⟩) (by show w.heap.size < _; omega)).trans k1, (hb.cell (p := ⟨w.heap.size, 2, none⟩) (by show w.heap.size < _; omega)).trans k2, (hb.cell (p := ⟨w.heap.size, 3, none⟩) (by show w.heap.size < _; omega)).trans k3⟩
  have HD2 := Lib.hid hD1
  have HQ2 : Hid (∀ w', Below w2.heap.size w2 w' → Calls Tryz.prog 49 #[.string x1, .string x2, .string x3] w' (fun e w'' => ∃ a c a' c', e = .returned (.tuple #[.agg #[.slice a m.length c, .int .i64 t, .slice a' L.length c'], .nilIface]) ∧ RI w'' w'.heap.size w''.heap.size a m ∧ RIIc w'' w'.heap.size w''.heap.size a' c' L ∧ Below w'.heap.size w' w'')) := fun w' hb => HQ.out w' (hD1.below hb (Nat.le_refl _))
  have hq0 : Below w2.heap.size w2 w2 := Below.refl _ _
  have HZ := Lib.hid hz1
  clear k0 k1 k2 k3 hD1 hz1
  go_wp2_with fail
  go_region_held3 (fun w' => w'.cell? ⟨w.heap.size, 1, none⟩ = some (.string x1) ∧ w'.cell? ⟨w.heap.size, 2, none⟩ = some (.string x2) ∧ w'.cell? ⟨w.heap.size, 3, none⟩ = some (.string x3)) (first | (refine HS.out _ ?_; (repeat (first | with_reducible exact hq1 | with_reducible exact hq0 | with_reducible refine dBelowA ?_ _ | with_reducible refine dBelowD ?_)); done) | (have hh := HS.out _ hq1; exact ⟨qset (by have := HZ.out; omega) hh.1, qset (by have := HZ.out; omega) hh.2.1, qset (by have := HZ.out; omega) hh.2.2⟩) | go_keep) ((first
    | (go_at_call 49; refine (HQ2.out _ (by (repeat (first | with_reducible exact hq0 | with_reducible refine dBelowA ?_ _ | with_reducible refine dBelowD ?_)))).mono ?_; rintro e v1 ⟨ma, mc, la, lc, rfl, hmP, hlP, hbP⟩; have hq1 : Below w2.heap.size w2 v1 := dBelowS (by (repeat (first | with_reducible exact hq0 | with_reducible refine dBelowA ?_ _ | with_reducible refine dBelowD ?_))) hbP; try (have hbx1 : Hid (v1.heap[w2.heap.size]? = some (.cells #[.slice none 0 0, .int .i64 0, .slice none 0 0] 83 (0, 0))) := zqD (v0 := w2) hbP; obtain ⟨d0, d1, d2⟩ := cells3q hbx1.out; have f0 := frozenq hbx1.out 0; have f1 := frozenq hbx1.out 1; have f2 := frozenq hbx1.out 2))
    | fail))
  all_goals
    first
      | (obtain ⟨u4, q, hu4, hq, hbox, hq4, hkk, hks⟩ := leafDq (.slice ma m.length mc) (.int .i64 t) (.slice la L.length lc) hq1; rw [← hu4, ← hq])
      | (obtain ⟨u4, q, hu4, hq, hbox, hq4, hkk, hks⟩ := leafSq (.slice ma m.length mc) (.int .i64 t) (.slice la L.length lc) hq1 hbx1 (Nat.le_refl _); rw [← hu4, ← hq])
    obtain ⟨d0, d1, d2⟩ := cells3q hbox
    have hD4 := HD2.out.below hq4 (Nat.le_refl _)
    have hm4 := hmP.same (w' := u4) fun k k1 k2 => hkk k (by first | omega | (have := Nat.lt_of_lt_of_le (ltAD w2 _) k1; omega))
    have hl4 : RIIc u4 _ v1.heap.size la lc L := ⟨hlP.rii.same (w' := u4) fun k k1 k2 => hkk k (by first | omega | (have := Nat.lt_of_lt_of_le (ltAD w2 _) k1; omega)), hlP.cap⟩
    clear hu4 hq hbP hq1 HS HQ2 hkk hmP hlP
    go_wp2_with fail
    refine (HF.out u4 _ v1.heap.size _ _ _ _ hD4 hm4 hl4 hks).mono ?_
    rintro e w6 ⟨rfl, b6⟩
    have hb6 := (hbA.trans (hq4.mono hbA.size)).trans (b6.mono (Nat.le_trans hbA.size hq4.size))
    go_wp2
    go_ret2
    exact ⟨rfl, hb6⟩

set_option maxRecDepth 100000 in
set_option maxHeartbeats 8000000 in
theorem i_tryYes2 {line x0 x1 x2 x3 : ByteArray} {w : World} {a0 a1 : Addr} (hs : line.size ≤ 1048576) (HX : Hid (pcs 32 line = [x0, x1, x2, x3])) (HA : Hid (∀ w, Calls Tryz.prog 48 #[.string x0] w fun e w' => e = .returned (.func (.func 60) #[] #[]) ∧ w' = w)) (hD : DeskW w a0 a1)
    {m : List Int} {L : List (List Int)} {t : Int} {V : ByteArray}
    (HQ : Hid (∀ w', DeskW w' a0 a1 → Calls Tryz.prog 49 #[.string x1, .string x2, .string x3] w' (fun e w'' => ∃ a c a' c', e = .returned (.tuple #[.agg #[.slice a m.length c, .int .i64 t, .slice a' L.length c'], .nilIface]) ∧ RI w'' w'.heap.size w''.heap.size a m ∧ RIIc w'' w'.heap.size w''.heap.size a' c' L ∧ Below w'.heap.size w' w'')))
    (HF : Hid (∀ w' lo hi a c a' c', DeskW w' a0 a1 → RI w' lo hi a m → RIIc w' lo hi a' c' L → hi ≤ w'.heap.size → Calls Tryz.prog 60 #[.agg #[.slice a m.length c, .int .i64 t, .slice a' L.length c']] w' (NewV w' (.string V)))) :
    Calls Tryz.prog 34 #[.string line] w (tryR w V .nilIface) := by
  have hsp := x_Split1 line 32 w (by omega)
  rw [HX.out] at hsp
  have HSP := Lib.hid hsp
  have hbA := (Below.refl w.heap.size w).alloc (Nat.le_refl _) (.cells (([x0, x1, x2, x3]).map Value.string).toArray 9)
  have hD1 := hD.below hbA (Nat.le_refl _)
  have k0 := split_cells (X := [x0, x1, x2, x3]) (w := w) (k := 0) (p := x0) rfl
  have k1 := split_cells (X := [x0, x1, x2, x3]) (w := w) (k := 1) (p := x1) rfl
  have k2 := split_cells (X := [x0, x1, x2, x3]) (w := w) (k := 2) (p := x2) rfl
  have k3 := split_cells (X := [x0, x1, x2, x3]) (w := w) (k := 3) (p := x3) rfl
  have i0 : ∀ wx : World, (Instr.indexAt 22 (.slice (some ⟨w.heap.size, 0, none⟩) 4 4) (.int .i64 0)).run Tryz.prog wx = .ok (.pointer (some ⟨w.heap.size, 0, none⟩)) wx := fun wx => idxSt (a := some ⟨w.heap.size, 0, none⟩) (len := 4) (k := 0) rfl (by omega) 4 wx
  have i1 : ∀ wx : World, (Instr.indexAt 22 (.slice (some ⟨w.heap.size, 0, none⟩) 4 4) (.int .i64 1)).run Tryz.prog wx = .ok (.pointer (some ⟨w.heap.size, 1, none⟩)) wx := fun wx => by have h := idxSt (a := some ⟨w.heap.size, 0, none⟩) (len := 4) (k := 1) rfl (by omega) 4 wx; simpa using h
  have i2 : ∀ wx : World, (Instr.indexAt 22 (.slice (some ⟨w.heap.size, 0, none⟩) 4 4) (.int .i64 2)).run Tryz.prog wx = .ok (.pointer (some ⟨w.heap.size, 2, none⟩)) wx := fun wx => by have h := idxSt (a := some ⟨w.heap.size, 0, none⟩) (len := 4) (k := 2) rfl (by omega) 4 wx; simpa using h
  have i3 : ∀ wx : World, (Instr.indexAt 22 (.slice (some ⟨w.heap.size, 0, none⟩) 4 4) (.int .i64 3)).run Tryz.prog wx = .ok (.pointer (some ⟨w.heap.size, 3, none⟩)) wx := fun wx => by have h := idxSt (a := some ⟨w.heap.size, 0, none⟩) (len := 4) (k := 3) rfl (by omega) 4 wx; simpa using h
  have fn := eqlFN 60
  clear hsp hD
  go_enter Tryz.func34, Tryz.ntmps34
  go_wp2_with fail
  refine (HSP.out).mono ?_
  rintro e w1 ⟨rfl, hw1⟩
  rw [← hw1] at k0 k1 k2 k3 hbA hD1
  have hz1 : w1.heap.size = w.heap.size + 1 := by rw [hw1]; simp
  clear hw1
  go_wp2_with fail
  refine (HA.out w1).mono ?_
  rintro e w2 ⟨rfl, rfl⟩
  have HS : Hid (∀ w', Below w2.heap.size w2 w' → w'.cell? ⟨w.heap.size, 1, none⟩ = some (.string x1) ∧ w'.cell? ⟨w.heap.size, 2, none⟩ = some (.string x2) ∧ w'.cell? ⟨w.heap.size, 3, none⟩ = some (.string x3)) := fun w' hb =>
    ⟨(hb.cell (p := ⟨w.heap.size, 1, none⟩) (by show w.heap.size < _; omega)).trans k1, (hb.cell (p := ⟨w.heap.size, 2, none⟩) (by show w.heap.size < _; omega)).trans k2, (hb.cell (p := ⟨w.heap.size, 3, none⟩) (by show w.heap.size < _; omega)).trans k3⟩
  have HD2 := Lib.hid hD1
  have HQ2 : Hid (∀ w', Below w2.heap.size w2 w' → Calls Tryz.prog 49 #[.string x1, .string x2, .string x3] w' (fun e w'' => ∃ a c a' c', e = .returned (.tuple #[.agg #[.slice a m.length c, .int .i64 t, .slice a' L.length c'], .nilIface]) ∧ RI w'' w'.heap.size w''.heap.size a m ∧ RIIc w'' w'.heap.size w''.heap.size a' c' L ∧ Below w'.heap.size w' w'')) := fun w' hb => HQ.out w' (hD1.below hb (Nat.le_refl _))
  have hq0 : Below w2.heap.size w2 w2 := Below.refl _ _
  have HZ := Lib.hid hz1
  clear k0 k1 k2 k3 hD1 hz1
  go_wp2_with fail
  go_region_held3 (fun w' => w'.cell? ⟨w.heap.size, 1, none⟩ = some (.string x1) ∧ w'.cell? ⟨w.heap.size, 2, none⟩ = some (.string x2) ∧ w'.cell? ⟨w.heap.size, 3, none⟩ = some (.string x3)) (first | (refine HS.out _ ?_; (repeat (first | with_reducible exact hq1 | with_reducible exact hq0 | with_reducible refine dBelowA ?_ _ | with_reducible refine dBelowD ?_)); done) | (have hh := HS.out _ hq1; exact ⟨qset (by have := HZ.out; omega) hh.1, qset (by have := HZ.out; omega) hh.2.1, qset (by have := HZ.out; omega) hh.2.2⟩) | go_keep) ((first
    | (go_at_call 49; refine (HQ2.out _ (by (repeat (first | with_reducible exact hq0 | with_reducible refine dBelowA ?_ _ | with_reducible refine dBelowD ?_)))).mono ?_; rintro e v1 ⟨ma, mc, la, lc, rfl, hmP, hlP, hbP⟩; have hq1 : Below w2.heap.size w2 v1 := dBelowS (by (repeat (first | with_reducible exact hq0 | with_reducible refine dBelowA ?_ _ | with_reducible refine dBelowD ?_))) hbP; try (have hbx1 : Hid (v1.heap[w2.heap.size]? = some (.cells #[.slice none 0 0, .int .i64 0, .slice none 0 0] 83 (0, 0))) := zqD (v0 := w2) hbP; obtain ⟨d0, d1, d2⟩ := cells3q hbx1.out; have f0 := frozenq hbx1.out 0; have f1 := frozenq hbx1.out 1; have f2 := frozenq hbx1.out 2))
    | fail))
  all_goals
    first
      | (obtain ⟨u4, q, hu4, hq, hbox, hq4, hkk, hks⟩ := leafDq (.slice ma m.length mc) (.int .i64 t) (.slice la L.length lc) hq1; rw [← hu4, ← hq])
      | (obtain ⟨u4, q, hu4, hq, hbox, hq4, hkk, hks⟩ := leafSq (.slice ma m.length mc) (.int .i64 t) (.slice la L.length lc) hq1 hbx1 (Nat.le_refl _); rw [← hu4, ← hq])
    obtain ⟨d0, d1, d2⟩ := cells3q hbox
    have hD4 := HD2.out.below hq4 (Nat.le_refl _)
    have hm4 := hmP.same (w' := u4) fun k k1 k2 => hkk k (by first | omega | (have := Nat.lt_of_lt_of_le (ltAD w2 _) k1; omega))
    have hl4 : RIIc u4 _ v1.heap.size la lc L := ⟨hlP.rii.same (w' := u4) fun k k1 k2 => hkk k (by first | omega | (have := Nat.lt_of_lt_of_le (ltAD w2 _) k1; omega)), hlP.cap⟩
    clear hu4 hq hbP hq1 HS HQ2 hkk hmP hlP
    go_wp2_with fail
    refine (HF.out u4 _ v1.heap.size _ _ _ _ hD4 hm4 hl4 hks).mono ?_
    rintro e w6 ⟨rfl, b6⟩
    have hb6 := (hbA.trans (hq4.mono hbA.size)).trans (b6.mono (Nat.le_trans hbA.size hq4.size))
    go_wp2
    go_ret2
    exact ⟨rfl, hb6⟩

/- The desk of the program: a line's answer; RunDesk. -/
open Go Go.Shelf Go.RowKit

/-- how a line's trial comes out -/
def TryO (line : ByteArray) (w : World) (a0 a1 : Addr) : Prop :=
  Calls Tryz.prog 34 #[.string line] w (tryR w (anS line) .nilIface) ∨
  (Calls Tryz.prog 34 #[.string line] w (tryR w ⟨#[]⟩ (.iface 165 (.pointer (some a0)))) ∧ anS line = wrongS) ∨
  (Calls Tryz.prog 34 #[.string line] w (tryR w ⟨#[]⟩ (.iface 165 (.pointer (some a1)))) ∧ anS line = whatS)

theorem try_q {line x0 x1 x2 x3 : ByteArray} {w : World} {a0 a1 : Addr} {fq : FuncId} (hs : line.size ≤ 1048576) (hX : pcs 32 line = [x0, x1, x2, x3]) (hk : dkK x0 ≠ 3) (HA : Hid (∀ w, Calls Tryz.prog 48 #[.string x0] w fun e w' => e = .returned (.func (.func fq) #[] #[]) ∧ w' = w)) (hD : DeskW w a0 a1)
    (hy : qoB x1 x2 x3 = true → Calls Tryz.prog 34 #[.string line] w (tryR w (dkV (dkK x0) (rdL x1) (psR x3) (dkN x2)) .nilIface)) : TryO line w a0 a1 := by
  have e : anS line = anW x0 x1 x2 x3 := by unfold anS; rw [hX]; rfl
  have hsz : ∀ p ∈ pcs 32 line, p.size ≤ line.size := fun p hp => pcs_size hp
  rw [hX] at hsz
  have hz1 := hsz x1 (by simp)
  have hz2 := hsz x2 (by simp)
  have hz3 := hsz x3 (by simp)
  cases hq : qoB x1 x2 x3
  · right; left
    have hw : anW x0 x1 x2 x3 = wrongS := by
      refine an_wrong hk ?_
      unfold qoB at hq
      rw [Bool.and_eq_false_iff] at hq
      exact hq
    refine ⟨i_tryWrong hs hX HA hD ?_, e.trans hw⟩
    show ∀ w', _ → _
    intro w' hD'
    have hl1 : (dgO x1).length ≤ 1048576 := by unfold dgO; split <;> simp [rdL_len]; omega
    have hl2 : (dgO x2).length ≤ 1048576 := by unfold dgO; split <;> simp [rdL_len]; omega
    rcases qo_no hq with h | ⟨t, ht, h | ⟨h, h'⟩⟩
    · exact i_questionA (by omega) (by omega) (by omega) hD' (Lib.hid rfl) (Lib.hid rfl) hl1 hl2 h
    · exact i_questionB (by omega) (by omega) (by omega) hD' (Lib.hid rfl) (Lib.hid ht) hl1 (Lib.hid h)
    · exact i_questionC (by omega) (by omega) (by omega) hD' (Lib.hid rfl) (Lib.hid ht) hl1 (Lib.hid h) (Lib.hid h')
  · left
    have hq2 := hq
    unfold qoB at hq2
    rw [Bool.and_eq_true] at hq2
    rw [e, an_yes hk hq2.1 hq2.2]
    exact hy hq
theorem i_tryAnswer {line : ByteArray} {w : World} {a0 a1 : Addr} (hs : line.size ≤ 1048576) (hD : DeskW w a0 a1) : TryO line w a0 a1 := by
  obtain ⟨x0, X, hX⟩ : ∃ x0 X, pcs 32 line = x0 :: X := by
    cases h : pcs 32 line with
    | nil => exact absurd h (pcs_ne 32 line)
    | cons x0 X => exact ⟨x0, X, rfl⟩
  by_cases h4 : (pcs 32 line).length = 4
  case neg =>
    have e : anS line = whatS := anX_len h4
    rw [hX] at h4
    right; right
    refine ⟨?_, e⟩
    rcases dk_cases x0 with ⟨_, hc⟩ | ⟨_, hc⟩ | ⟨_, hc⟩ | ⟨_, hc⟩
    · exact i_tryLen hs (Lib.hid hX) h4 (fq := 58) (fun _ => i_answerOf0 hc) hD
    · exact i_tryLen hs (Lib.hid hX) h4 (fq := 59) (fun _ => i_answerOf1 hc) hD
    · exact i_tryLen hs (Lib.hid hX) h4 (fq := 60) (fun _ => i_answerOf2 hc) hD
    · exact i_tryNone hs (Lib.hid hX) hc hD
  clear hX X x0
  obtain ⟨x0, x1, x2, x3, hX⟩ := four h4
  have e : anS line = anW x0 x1 x2 x3 := by unfold anS; rw [hX]; rfl
  have hsz : ∀ p ∈ pcs 32 line, p.size ≤ line.size := fun p hp => pcs_size hp
  rw [hX] at hsz
  have hz1 := hsz x1 (by simp)
  have hz2 := hsz x2 (by simp)
  have hz3 := hsz x3 (by simp)
  have hl1 : (rdL x1).length ≤ 1048576 := by rw [rdL_len]; omega
  have hRL := psR_len x3
  have hRG : ∀ r ∈ psR x3, r.length ≤ 9223372036854775807 := fun r hr => by have := psR_row hr; omega
  have HQ : qoB x1 x2 x3 = true → Hid (∀ w', DeskW w' a0 a1 → Calls Tryz.prog 49 #[.string x1, .string x2, .string x3] w' (fun e w'' => ∃ a c a' c', e = .returned (.tuple #[.agg #[.slice a (rdL x1).length c, .int .i64 (dkN x2), .slice a' (psR x3).length c'], .nilIface]) ∧ RI w'' w'.heap.size w''.heap.size a (rdL x1) ∧ RIIc w'' w'.heap.size w''.heap.size a' c' (psR x3) ∧ Below w'.heap.size w' w'')) := fun hq w' hD' => by
    obtain ⟨g1, g2, g3, g4⟩ := qo_yes hq
    exact i_questionY (by omega) (by omega) (by omega) hD' (Lib.hid g1) (Lib.hid g2) hl1 (Lib.hid g3) (Lib.hid g4)
  have HO : qoB x1 x2 x3 = true → okM (rdL x1) = true ∧ okS (rdL x1) (psR x3) = true ∧ 0 ≤ dkN x2 ∧ dkN x2 ≤ (rdL x1).length := fun hq => by
    obtain ⟨g1, g2, g3, g4⟩ := qo_yes hq
    have h := inR_true.1 g3
    unfold psB at g4
    rw [Bool.and_eq_true] at g4
    exact ⟨g4.1, g4.2, h.1, h.2⟩
  rcases dk_cases x0 with ⟨hk, hc⟩ | ⟨hk, hc⟩ | ⟨hk, hc⟩ | ⟨hk, hc⟩
  · refine try_q hs hX (by rw [hk]; decide) (fun _ => i_answerOf0 hc) hD fun hq => ?_
    obtain ⟨o1, o2, o3, o4⟩ := HO hq
    rw [hk]
    exact i_tryYes0 hs hX (fun _ => i_answerOf0 hc) hD (HQ hq) (fun w' lo hi a c a' c' hD' hm hl hh => i_covered hm hl.rii (by omega) (by omega) hRG hh hh o1 o2 o3 o4 hD')
  · refine try_q hs hX (by rw [hk]; decide) (fun _ => i_answerOf1 hc) hD fun hq => ?_
    obtain ⟨o1, o2, o3, o4⟩ := HO hq
    rw [hk]
    exact i_tryYes1 hs hX (fun _ => i_answerOf1 hc) hD (HQ hq) (fun w' lo hi a c a' c' hD' hm hl hh => i_grown hm hl.rii (by omega) (by omega) hRG hh hh o1 o2 o3 o4)
  · refine try_q hs hX (by rw [hk]; decide) (fun _ => i_answerOf2 hc) hD fun hq => ?_
    obtain ⟨o1, o2, o3, o4⟩ := HO hq
    rw [hk]
    exact i_tryYes2 hs hX (fun _ => i_answerOf2 hc) hD (HQ hq) (fun w' lo hi a c a' c' hD' hm hl hh => i_trimmed hm hl.rii (by omega) (by omega) hl.cap hRG hh hh o1 o2 o3 o4)
  · right; right
    exact ⟨i_tryNone hs (Lib.hid hX) hc hD, by rw [e]; unfold anW; rw [if_pos hk]⟩

set_option maxRecDepth 100000 in
set_option maxHeartbeats 2000000 in
theorem i_answerToN {line s : ByteArray} {w : World} {a0 a1 : Addr} (hD : DeskW w a0 a1) (HT : Hid (Calls Tryz.prog 34 #[.string line] w (tryR w s .nilIface))) : Calls Tryz.prog 14 #[.string line] w (NewV w (.string s)) := by
  go_enter Tryz.func14, Tryz.ntmps14
  go_wp2_with fail
  refine HT.out.mono ?_
  rintro e w1 ⟨rfl, b1⟩
  have hD1 := hD.below b1 (Nat.le_refl _)
  have e0 := hD1.e0
  have e1 := hD1.e1
  go_wp2_with fail
  refine (is_nilK a0 w1).mono ?_
  rintro e w2 ⟨rfl, rfl⟩
  go_wp2_with fail
  refine (is_nilK a1 w2).mono ?_
  rintro e w3 ⟨rfl, rfl⟩
  go_wp2
  go_ret
  exact ⟨rfl, b1⟩

set_option maxRecDepth 100000 in
set_option maxHeartbeats 2000000 in
theorem i_answerTo0 {line s : ByteArray} {w : World} {a0 a1 : Addr} (hD : DeskW w a0 a1) (HT : Hid (Calls Tryz.prog 34 #[.string line] w (tryR w s (.iface 165 (.pointer (some a0)))))) : Calls Tryz.prog 14 #[.string line] w (NewV w (.string wrongS)) := by
  go_enter Tryz.func14, Tryz.ntmps14
  go_wp2_with fail
  refine HT.out.mono ?_
  rintro e w1 ⟨rfl, b1⟩
  have hD1 := hD.below b1 (Nat.le_refl _)
  have e0 := hD1.e0
  go_wp2_with fail
  refine (is_sameK a0 w1).mono ?_
  rintro e w2 ⟨rfl, rfl⟩
  go_wp2
  go_ret
  exact ⟨rfl, b1⟩

set_option maxRecDepth 100000 in
set_option maxHeartbeats 2000000 in
theorem i_answerTo1 {line s : ByteArray} {w : World} {a0 a1 : Addr} (hD : DeskW w a0 a1) (HT : Hid (Calls Tryz.prog 34 #[.string line] w (tryR w s (.iface 165 (.pointer (some a1)))))) : Calls Tryz.prog 14 #[.string line] w (NewV w (.string whatS)) := by
  go_enter Tryz.func14, Tryz.ntmps14
  go_wp2_with fail
  refine HT.out.mono ?_
  rintro e w1 ⟨rfl, b1⟩
  have hD1 := hD.below b1 (Nat.le_refl _)
  have e0 := hD1.e0
  have e1 := hD1.e1
  obtain ⟨c0, t0, hh0⟩ := hD1.h0
  obtain ⟨c1, t1, hh1⟩ := hD1.h1
  have HO := Lib.hid (is_otherK a1 a0 c1 c0 t1 t0 w1 (fun e => hD1.ne e.symm) hh1 hh0)
  clear hh0 hh1
  go_wp2_with fail
  refine HO.out.mono ?_
  rintro e w2 ⟨rfl, rfl⟩
  go_wp2_with fail
  refine (is_sameK a1 w2).mono ?_
  rintro e w3 ⟨rfl, rfl⟩
  go_wp2
  go_ret
  exact ⟨rfl, b1⟩

theorem i_answerTo {line : ByteArray} {w : World} {a0 a1 : Addr} (hs : line.size ≤ 1048576) (hD : DeskW w a0 a1) : Calls Tryz.prog 14 #[.string line] w (NewV w (.string (anS line))) := by
  rcases i_tryAnswer (a0 := a0) (a1 := a1) hs hD with h | ⟨h, e⟩ | ⟨h, e⟩
  · exact i_answerToN hD h
  · rw [e]; exact i_answerTo0 hD h
  · rw [e]; exact i_answerTo1 hD h

theorem BuilderAt.belowK {T e : TypeId} {B b : Nat} {p : Value} {bs : List Value} {w w' : World} (h : Lib.BuilderAt T e B b p bs w) (hb : Below w.heap.size w w') : Lib.BuilderAt T e B b p bs w' := by
  have hlt := h.lt
  obtain ⟨h1, v, h2, h3, h4⟩ := h
  refine ⟨h1, v, (hb.block b hlt).trans h2, ?_, h4⟩
  refine World.ownsRow.kept h3 (row := none) ⟨hb.os, hb.tape, hb.output, hb.size, fun k hk _ => hb.block k hk⟩ ?_
  cases v.ownBlock <;> simp
theorem IsBuilder.belowK {T e : TypeId} {B b : Nat} {bs : List Value} {w w' : World} (h : Lib.IsBuilder T e B b bs w) (hb : Below w.heap.size w w') : Lib.IsBuilder T e B b bs w' :=
  h.elim (fun x => .inl (BuilderAt.belowK x hb)) (fun x => .inr (BuilderAt.belowK x hb))
theorem dk_cells (X : List ByteArray) (l : ByteArray) : (Lib.byteCells (dkT X).data.toList ++ Lib.strCells (anS l)) ++ [.int .u8 10] = Lib.byteCells (dkT (X ++ [l])).data.toList := by
  rw [dkT_snoc, Lib.strCells_eq]
  have e : ([.int .u8 10] : List Value) = Lib.byteCells [10] := rfl
  rw [e, ← Lib.byteCells_append, ← Lib.byteCells_append]
  congr 1

set_option maxRecDepth 100000 in
set_option maxHeartbeats 4000000 in
theorem i_RunDesk {X : List ByteArray} {a : Option Addr} {c hi : Nat} {w : World} {a0 a1 : Addr} (hX : RSt w hi a X) (hl : X.length ≤ 9223372036854775807) (hs : ∀ p ∈ X, p.size ≤ 1048576) (hB : hi ≤ w.heap.size) (hD : DeskW w a0 a1) :
    Calls Tryz.prog 8 #[.slice a X.length c] w (NewV w (.string (rdT X))) := by
  have HS := Lib.hid hs; clear hs
  have HT : Hid (∀ k, (dkT (X.take k)).data.toList.length ≤ 4097 * k) := fun k => by have h := dkT_size (X.take k); rw [List.length_take] at h; show (dkT (X.take k)).data.toList.length ≤ _; have e : (dkT (X.take k)).data.toList.length = (dkT (X.take k)).size := by simp
                                                                                     omega
  by_cases h20 : 20 < X.length
  · have HR : Hid (rdT X = ⟨#[]⟩) := by show _ = _; unfold rdT; rw [if_pos h20]
    go_enter Tryz.func8, Tryz.ntmps8
    go_wp2
    go_ret
    rw [HR.out]
    exact ⟨rfl, Below.refl _ _⟩
  · have HR : Hid (rdT X = dkT X) := by show _ = _; unfold rdT; rw [if_neg h20]
    have hbA := (Below.refl w.heap.size w).alloc (Nat.le_refl _) (.cells #[.pointer none, .slice none 0 0] 35)
    have hst : Lib.IsBuilder (bldRen.t 72) (bldRen.t 5) w.heap.size w.heap.size (Lib.byteCells (dkT (X.take 0)).data.toList) (w.alloc (.cells #[.pointer none, .slice none 0 0] 35)) :=
      .inl ⟨Nat.le_refl _, .slice none 0 0, heap_alloc_new w _, World.ownsRow_nil _ _ _ _, by simp [Value.ownBlock]⟩
    go_enter Tryz.func8, Tryz.ntmps8
    go_wp2
    go_loopw [11] (fun i wr => ∃ k : Nat, k ≤ X.length ∧ i = .int .i64 k ∧ Hid (Lib.IsBuilder (bldRen.t 72) (bldRen.t 5) w.heap.size w.heap.size (Lib.byteCells (dkT (X.take k)).data.toList) wr) ∧ Below w.heap.size w wr) (fun i _ => X.length - (intOf i).toNat)
    case atStart => exact ⟨0, Nat.zero_le _, rfl, hst, hbA⟩
    case round =>
      clear hst hbA
      obtain ⟨k, hk, rfl, hI, hb⟩ := hrel
      have hz := hb.size
      by_cases hlt : k < X.length
      · obtain ⟨p, hp⟩ := at_of_lt hlt
        obtain ⟨b, o, ha, hbl, hcell⟩ := hX.below hb hB k p hp
        have hidx := idxSt ha hlt c
        have hps := HS.out p (List.mem_of_getElem? hp)
        have hDr := hD.below hb (Nat.le_refl _)
        have hlen := HT.out k
        have hq := anS_size p
        have HC : Hid ((Lib.byteCells (dkT (X.take k)).data.toList ++ Lib.strCells (anS p)) ++ [.int .u8 10] = Lib.byteCells (dkT (X.take (k + 1))).data.toList) := by show _ = _; rw [take_snoc hp]; exact dk_cells _ _
        obtain ⟨q, hqe⟩ : ∃ q, anS p = q := ⟨_, rfl⟩
        have HQ := Lib.hid hqe
        rw [hqe] at hq HC
        clear ha hp hX hqe
        go_wp2_with fail
        refine (i_answerTo (line := p) hps hDr).mono ?_
        rintro e w2 ⟨rfl, b2⟩
        have h2 := IsBuilder.belowK hI.out b2
        rw [HQ.out]
        have hb2 := hb.trans (b2.mono hz)
        have hz2 := hb2.size
        clear hDr b2 hcell hidx
        have HW := Lib.hid (Any.Builder_WriteString bld166 bldExtra w.heap.size w.heap.size _ q w2 h2 (by rw [Lib.byteCells_length]; omega) hz2)
        clear h2
        go_wp2_with fail
        refine HW.out.mono ?_
        rintro e w3 ⟨rfl, h3, b3⟩
        have hb3 := hb2.trans b3
        have hz3 := hb3.size
        have HW3 := Lib.hid (Any.Builder_WriteByte bld167 bldExtra w.heap.size w.heap.size _ 10 w3 (.inr h3) (by rw [List.length_append, Lib.byteCells_length, Lib.strCells_length]; omega) hz3)
        clear h3 b3
        go_wp2_with fail
        refine HW3.out.mono ?_
        rintro e w4 ⟨rfl, h4, b4⟩
        have hb4 := hb3.trans b4
        rw [HC.out] at h4
        have H4 := Lib.hid (Or.inr h4 : Lib.IsBuilder (bldRen.t 72) (bldRen.t 5) w.heap.size w.heap.size (Lib.byteCells (dkT (X.take (k + 1))).data.toList) w4)
        clear h4 b4
        go_wp2
        go_roundw
        case rel => exact ⟨k + 1, by omega, by go_num, H4, hb4⟩
        case measure => simp [intOf]; omega
      · have h := hI.out
        rw [List.take_of_length_le (by omega)] at h
        have HW := Lib.hid (Any.Builder_String_any bld169 bldExtra w.heap.size w.heap.size _ wr h hz)
        clear h
        go_wp2_with fail
        refine HW.out.mono ?_
        rintro e w2 ⟨rfl, b2⟩
        go_wp2
        go_ret
        rw [HR.out]
        exact ⟨rfl, hb.trans b2⟩

end Go.Proofs.YtpioldgpfpmjiaaGreatDoor
