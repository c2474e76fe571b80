/- Walks: patterns that are kept: those that agree with a result, and those that are suspects. -/
import Derived.Test.YtehoagbpgahopaaJc
import Derived.Test.YtehoagbpgahopaaTb
import Derived.Handy
namespace Go.Proofs.Ytehoagbpgahopaa
open Go.RowKit

set_option maxHeartbeats 1000000 in
theorem i_agreesF (P Q : Nat → Int) (w : World) : Calls Try.prog 288 #[.agg #[.int .i64 (Q 0), .int .i64 (Q 1), .int .i64 (Q 2), .int .i64 (Q 3), .int .i64 (Q 4)], .agg #[.int .i64 (P 0), .int .i64 (P 1), .int .i64 (P 2), .int .i64 (P 3), .int .i64 (P 4)]] w (NewV w (.bool (meet5 P Q))) := by
  have hb := ((Below.refl w.heap.size w).alloc (Nat.le_refl _) (.cells #[.int .i64 (Q 0), .int .i64 (Q 1), .int .i64 (Q 2), .int .i64 (Q 3), .int .i64 (Q 4)] 192)).alloc (by simp) (.cells #[.int .i64 (P 0), .int .i64 (P 1), .int .i64 (P 2), .int .i64 (P 3), .int .i64 (P 4)] 97)
  go_enter Try.func288, Try.ntmps288
  go_wp2_with fail
  refine (i_meets P Q _).mono ?_
  rintro e w2 ⟨rfl, hb2⟩
  go_wp2
  go_ret
  exact ⟨rfl, hb.trans (hb2.mono (by simp; omega))⟩

set_option maxHeartbeats 1000000 in
theorem i_agreesP (P Q : Nat → Int) (w : World) : Calls Try.prog 287 #[.agg #[.int .i64 (Q 0), .int .i64 (Q 1), .int .i64 (Q 2), .int .i64 (Q 3), .int .i64 (Q 4)], .agg #[.int .i64 (P 0), .int .i64 (P 1), .int .i64 (P 2), .int .i64 (P 3), .int .i64 (P 4)]] w (NewV w (.bool (!meet5 P Q))) := by
  have hb := ((Below.refl w.heap.size w).alloc (Nat.le_refl _) (.cells #[.int .i64 (Q 0), .int .i64 (Q 1), .int .i64 (Q 2), .int .i64 (Q 3), .int .i64 (Q 4)] 191)).alloc (by simp) (.cells #[.int .i64 (P 0), .int .i64 (P 1), .int .i64 (P 2), .int .i64 (P 3), .int .i64 (P 4)] 97)
  go_enter Try.func287, Try.ntmps287
  go_wp2_with fail
  refine (i_meets P Q _).mono ?_
  rintro e w2 ⟨rfl, hb2⟩
  go_wp2
  go_ret
  exact ⟨rfl, hb.trans (hb2.mono (by simp; omega))⟩

set_option maxRecDepth 100000 in
set_option maxHeartbeats 2000000 in
theorem i_keptF {ps : List (List Int)} {v : Value} {B : Nat} {w0 w : World} (T : Nat → Int) (q : List Int → Bool) (ho : OwnP w0 B v ps) (hb0 : Below w0.heap.size w0 w) (hl : ps.length ≤ 1048576)
    (hcl : ∀ l ∈ ps, ∀ w', Below w.heap.size w w' → Calls Try.prog 288 #[.agg #[.int .i64 (T 0), .int .i64 (T 1), .int .i64 (T 2), .int .i64 (T 3), .int .i64 (T 4)], .agg #[.int .i64 (at5 l 0), .int .i64 (at5 l 1), .int .i64 (at5 l 2), .int .i64 (at5 l 3), .int .i64 (at5 l 4)]] w' (NewV w' (.bool (q l)))) :
    Calls Try.prog 192 #[v, .func (.method "loop.example/coveringtests/impl.agrees") #[.iface 192 (.agg #[.int .i64 (T 0), .int .i64 (T 1), .int .i64 (T 2), .int .i64 (T 3), .int .i64 (T 4)])] #[]] w (NewP w (ps.filter q)) := by
  obtain ⟨a, c, rfl, hat⟩ := ho.at
  have HAT := Lib.hid hat
  have HCL := Lib.hid hcl
  obtain ⟨M, hM⟩ : ∃ M, ps.length = M := ⟨_, rfl⟩
  have HNN := Lib.hid hM
  have hMl : M ≤ 1048576 := by omega
  have hs0 := hb0.size
  rw [hM]
  clear hat ho hM hl hcl
  go_enter Try.func192, Try.ntmps192
  go_wp2
  go_loopw [5, 10] (fun v i wr => ∃ k : Nat, k ≤ M ∧ i = .int .i64 k ∧ OwnP wr w.heap.size v ((ps.take k).filter q) ∧ Below w.heap.size w wr) (fun _ i _ => M - (intOf i).toNat)
  case atStart => exact ⟨0, Nat.zero_le _, rfl, OwnP.nil _ _, Below.refl _ _⟩
  case round =>
    obtain ⟨k, hk, rfl, hown, hB3⟩ := hrel
    have hz3 := hB3.size
    by_cases hlt : k < M
    · obtain ⟨l, hx⟩ := at_of_lt (show k < ps.length by have := HNN.out; omega)
      obtain ⟨g, hg1, hg2, hidx, hcs⟩ := HAT.out k l hx
      have HX := Lib.hid hx
      rw [HNN.out] at hidx
      have hBl3 : Below w0.heap.size w0 wr := hb0.trans (hB3.mono (by omega))
      have hc (j : Nat) (hj : j < 5) : wr.cell? ⟨g, k * 5 + j, none⟩ = some (.int .i64 (at5 l j)) := (hBl3.cell (p := ⟨g, k * 5 + j, none⟩) hg2).trans (hcs j hj)
      have hc0 := hc 0 (by omega)
      have hc1 := hc 1 (by omega)
      have hc2 := hc 2 (by omega)
      have hc3' := hc 3 (by omega)
      have hc4 := hc 4 (by omega)
      simp only [Nat.add_zero] at hc0
      clear hc hcs
      have hbA := (Below.refl wr.heap.size wr).alloc (Nat.le_refl _) (.cells #[.int .i64 (at5 l 0), .int .i64 (at5 l 1), .int .i64 (at5 l 2), .int .i64 (at5 l 3), .int .i64 (at5 l 4)] 97)
      have hml := flt_len q ps k
      have hln := HNN.out
      have hownA : OwnP (wr.alloc (.cells #[.int .i64 (at5 l 0), .int .i64 (at5 l 1), .int .i64 (at5 l 2), .int .i64 (at5 l 3), .int .i64 (at5 l 4)] 97)) w.heap.size _ ((ps.take k).filter q) := hown.kept fun j hj _ => hbA.block j hj
      have hlt' := hown.lt
      have hcall := Lib.hid (HCL.out l (List.mem_of_getElem? hx) (wr.alloc (.cells #[.int .i64 (at5 l 0), .int .i64 (at5 l 1), .int .i64 (at5 l 2), .int .i64 (at5 l 3), .int .i64 (at5 l 4)] 97)) (hB3.trans (hbA.mono (by omega))))
      clear hx
      cases hm : q l
      · have HM := Lib.hid hm
        have HU := Lib.hid (flt_skip (f := q) HX.out hm)
        clear hm
        go_wp2_with fail
        refine hcall.out.mono ?_
        rintro e w2 ⟨rfl, hb2⟩
        rw [HM.out]
        have hown2 : OwnP w2 w.heap.size _ ((ps.take k).filter q) := hownA.kept fun j hj _ => hb2.block j hj
        have hb02 := hbA.trans (hb2.mono (by simp))
        rw [← HU.out] at hown2
        have hB5 : Below w.heap.size w w2 := hB3.trans (hb02.mono (by omega))
        clear hownA hown hc0 hc1 hc2 hc3' hc4 hbA hb2 hlt' hb02 hB3
        go_wp2
        go_roundw
        case rel => exact ⟨k + 1, by omega, by go_num, hown2, hB5⟩
        case measure => simp [intOf]; omega
      · have HM := Lib.hid hm
        have HU := Lib.hid (flt_step (f := q) HX.out hm)
        clear hm
        go_wp2_with fail
        refine hcall.out.mono ?_
        rintro e w2 ⟨rfl, hb2⟩
        rw [HM.out]
        have hown2 : OwnP w2 w.heap.size _ ((ps.take k).filter q) := hownA.kept fun j hj _ => hb2.block j hj
        have hb02 := hbA.trans (hb2.mono (by simp))
        have hs2 := hb02.size
        obtain ⟨e0, e1, e2, e3, e4⟩ := cells5 ((hb2.block wr.heap.size (by simp)).trans (heap_alloc_new wr (.cells #[.int .i64 (at5 l 0), .int .i64 (at5 l 1), .int .i64 (at5 l 2), .int .i64 (at5 l 3), .int .i64 (at5 l 4)] 97)))
        clear hownA hown hc0 hc1 hc2 hc3' hc4 hbA hb2
        go_wp2_with (first
          | (at_builtin; refine wpList_appP rfl _ _ rfl w.heap.size _ ((ps.take k).filter q) rfl hown2 l _ rfl rfl (by omega) (by omega) ?_; intro v5 w5 hown5 hg5)
          | go_in)
        rw [← HU.out] at hown5
        have hB5 : Below w.heap.size w w5 := (hB3.trans (hb02.mono (by omega))).trans (hg5.below (fun g hg => (hlt' g hg).1) (by omega))
        clear hg5 hlt' hown2 hb02 hB3
        go_roundw
        case rel => exact ⟨k + 1, by omega, by go_num, hown5, hB5⟩
        case measure => simp [intOf]; omega
    · have HKE : Hid (ps.take k = ps) := List.take_of_length_le (by have := HNN.out; omega)
      go_wp2
      go_ret
      rw [HKE.out] at hown
      exact ⟨_, rfl, hown, hB3⟩


set_option maxRecDepth 100000 in
set_option maxHeartbeats 2000000 in
theorem i_keptA {ps : List (List Int)} {v : Value} {B : Nat} {w0 w : World} (T : Nat → Int) (q : List Int → Bool) (ho : OwnP w0 B v ps) (hb0 : Below w0.heap.size w0 w) (hl : ps.length ≤ 1048576)
    (hcl : ∀ l ∈ ps, ∀ w', Below w.heap.size w w' → Calls Try.prog 287 #[.agg #[.int .i64 (T 0), .int .i64 (T 1), .int .i64 (T 2), .int .i64 (T 3), .int .i64 (T 4)], .agg #[.int .i64 (at5 l 0), .int .i64 (at5 l 1), .int .i64 (at5 l 2), .int .i64 (at5 l 3), .int .i64 (at5 l 4)]] w' (NewV w' (.bool (q l)))) :
    Calls Try.prog 192 #[v, .func (.method "loop.example/coveringtests/impl.agrees") #[.iface 191 (.agg #[.int .i64 (T 0), .int .i64 (T 1), .int .i64 (T 2), .int .i64 (T 3), .int .i64 (T 4)])] #[]] w (NewP w (ps.filter q)) := by
  obtain ⟨a, c, rfl, hat⟩ := ho.at
  have HAT := Lib.hid hat
  have HCL := Lib.hid hcl
  obtain ⟨M, hM⟩ : ∃ M, ps.length = M := ⟨_, rfl⟩
  have HNN := Lib.hid hM
  have hMl : M ≤ 1048576 := by omega
  have hs0 := hb0.size
  rw [hM]
  clear hat ho hM hl hcl
  go_enter Try.func192, Try.ntmps192
  go_wp2
  go_loopw [5, 10] (fun v i wr => ∃ k : Nat, k ≤ M ∧ i = .int .i64 k ∧ OwnP wr w.heap.size v ((ps.take k).filter q) ∧ Below w.heap.size w wr) (fun _ i _ => M - (intOf i).toNat)
  case atStart => exact ⟨0, Nat.zero_le _, rfl, OwnP.nil _ _, Below.refl _ _⟩
  case round =>
    obtain ⟨k, hk, rfl, hown, hB3⟩ := hrel
    have hz3 := hB3.size
    by_cases hlt : k < M
    · obtain ⟨l, hx⟩ := at_of_lt (show k < ps.length by have := HNN.out; omega)
      obtain ⟨g, hg1, hg2, hidx, hcs⟩ := HAT.out k l hx
      have HX := Lib.hid hx
      rw [HNN.out] at hidx
      have hBl3 : Below w0.heap.size w0 wr := hb0.trans (hB3.mono (by omega))
      have hc (j : Nat) (hj : j < 5) : wr.cell? ⟨g, k * 5 + j, none⟩ = some (.int .i64 (at5 l j)) := (hBl3.cell (p := ⟨g, k * 5 + j, none⟩) hg2).trans (hcs j hj)
      have hc0 := hc 0 (by omega)
      have hc1 := hc 1 (by omega)
      have hc2 := hc 2 (by omega)
      have hc3' := hc 3 (by omega)
      have hc4 := hc 4 (by omega)
      simp only [Nat.add_zero] at hc0
      clear hc hcs
      have hbA := (Below.refl wr.heap.size wr).alloc (Nat.le_refl _) (.cells #[.int .i64 (at5 l 0), .int .i64 (at5 l 1), .int .i64 (at5 l 2), .int .i64 (at5 l 3), .int .i64 (at5 l 4)] 97)
      have hml := flt_len q ps k
      have hln := HNN.out
      have hownA : OwnP (wr.alloc (.cells #[.int .i64 (at5 l 0), .int .i64 (at5 l 1), .int .i64 (at5 l 2), .int .i64 (at5 l 3), .int .i64 (at5 l 4)] 97)) w.heap.size _ ((ps.take k).filter q) := hown.kept fun j hj _ => hbA.block j hj
      have hlt' := hown.lt
      have hcall := Lib.hid (HCL.out l (List.mem_of_getElem? hx) (wr.alloc (.cells #[.int .i64 (at5 l 0), .int .i64 (at5 l 1), .int .i64 (at5 l 2), .int .i64 (at5 l 3), .int .i64 (at5 l 4)] 97)) (hB3.trans (hbA.mono (by omega))))
      clear hx
      cases hm : q l
      · have HM := Lib.hid hm
        have HU := Lib.hid (flt_skip (f := q) HX.out hm)
        clear hm
        go_wp2_with fail
        refine hcall.out.mono ?_
        rintro e w2 ⟨rfl, hb2⟩
        rw [HM.out]
        have hown2 : OwnP w2 w.heap.size _ ((ps.take k).filter q) := hownA.kept fun j hj _ => hb2.block j hj
        have hb02 := hbA.trans (hb2.mono (by simp))
        rw [← HU.out] at hown2
        have hB5 : Below w.heap.size w w2 := hB3.trans (hb02.mono (by omega))
        clear hownA hown hc0 hc1 hc2 hc3' hc4 hbA hb2 hlt' hb02 hB3
        go_wp2
        go_roundw
        case rel => exact ⟨k + 1, by omega, by go_num, hown2, hB5⟩
        case measure => simp [intOf]; omega
      · have HM := Lib.hid hm
        have HU := Lib.hid (flt_step (f := q) HX.out hm)
        clear hm
        go_wp2_with fail
        refine hcall.out.mono ?_
        rintro e w2 ⟨rfl, hb2⟩
        rw [HM.out]
        have hown2 : OwnP w2 w.heap.size _ ((ps.take k).filter q) := hownA.kept fun j hj _ => hb2.block j hj
        have hb02 := hbA.trans (hb2.mono (by simp))
        have hs2 := hb02.size
        obtain ⟨e0, e1, e2, e3, e4⟩ := cells5 ((hb2.block wr.heap.size (by simp)).trans (heap_alloc_new wr (.cells #[.int .i64 (at5 l 0), .int .i64 (at5 l 1), .int .i64 (at5 l 2), .int .i64 (at5 l 3), .int .i64 (at5 l 4)] 97)))
        clear hownA hown hc0 hc1 hc2 hc3' hc4 hbA hb2
        go_wp2_with (first
          | (at_builtin; refine wpList_appP rfl _ _ rfl w.heap.size _ ((ps.take k).filter q) rfl hown2 l _ rfl rfl (by omega) (by omega) ?_; intro v5 w5 hown5 hg5)
          | go_in)
        rw [← HU.out] at hown5
        have hB5 : Below w.heap.size w w5 := (hB3.trans (hb02.mono (by omega))).trans (hg5.below (fun g hg => (hlt' g hg).1) (by omega))
        clear hg5 hlt' hown2 hb02 hB3
        go_roundw
        case rel => exact ⟨k + 1, by omega, by go_num, hown5, hB5⟩
        case measure => simp [intOf]; omega
    · have HKE : Hid (ps.take k = ps) := List.take_of_length_le (by have := HNN.out; omega)
      go_wp2
      go_ret
      rw [HKE.out] at hown
      exact ⟨_, rfl, hown, hB3⟩


set_option maxRecDepth 100000 in
set_option maxHeartbeats 2000000 in
theorem i_keptS {ps : List (List Int)} {v : Value} {B : Nat} {w0 w : World} (bx : Nat) (q : List Int → Bool) (ho : OwnP w0 B v ps) (hb0 : Below w0.heap.size w0 w) (hl : ps.length ≤ 1048576)
    (hcl : ∀ l ∈ ps, ∀ w', Below w.heap.size w w' → Calls Try.prog 203 #[.agg #[.int .i64 (at5 l 0), .int .i64 (at5 l 1), .int .i64 (at5 l 2), .int .i64 (at5 l 3), .int .i64 (at5 l 4)], .pointer (some ⟨bx, 0, none⟩)] w' (NewV w' (.bool (q l)))) :
    Calls Try.prog 192 #[v, .func (.func 203) #[] #[.pointer (some ⟨bx, 0, none⟩)]] w (NewP w (ps.filter q)) := by
  obtain ⟨a, c, rfl, hat⟩ := ho.at
  have HAT := Lib.hid hat
  have HCL := Lib.hid hcl
  obtain ⟨M, hM⟩ : ∃ M, ps.length = M := ⟨_, rfl⟩
  have HNN := Lib.hid hM
  have hMl : M ≤ 1048576 := by omega
  have hs0 := hb0.size
  rw [hM]
  clear hat ho hM hl hcl
  go_enter Try.func192, Try.ntmps192
  go_wp2
  go_loopw [5, 10] (fun v i wr => ∃ k : Nat, k ≤ M ∧ i = .int .i64 k ∧ OwnP wr w.heap.size v ((ps.take k).filter q) ∧ Below w.heap.size w wr) (fun _ i _ => M - (intOf i).toNat)
  case atStart => exact ⟨0, Nat.zero_le _, rfl, OwnP.nil _ _, Below.refl _ _⟩
  case round =>
    obtain ⟨k, hk, rfl, hown, hB3⟩ := hrel
    have hz3 := hB3.size
    by_cases hlt : k < M
    · obtain ⟨l, hx⟩ := at_of_lt (show k < ps.length by have := HNN.out; omega)
      obtain ⟨g, hg1, hg2, hidx, hcs⟩ := HAT.out k l hx
      have HX := Lib.hid hx
      rw [HNN.out] at hidx
      have hBl3 : Below w0.heap.size w0 wr := hb0.trans (hB3.mono (by omega))
      have hc (j : Nat) (hj : j < 5) : wr.cell? ⟨g, k * 5 + j, none⟩ = some (.int .i64 (at5 l j)) := (hBl3.cell (p := ⟨g, k * 5 + j, none⟩) hg2).trans (hcs j hj)
      have hc0 := hc 0 (by omega)
      have hc1 := hc 1 (by omega)
      have hc2 := hc 2 (by omega)
      have hc3' := hc 3 (by omega)
      have hc4 := hc 4 (by omega)
      simp only [Nat.add_zero] at hc0
      clear hc hcs
      have hbA := (Below.refl wr.heap.size wr).alloc (Nat.le_refl _) (.cells #[.int .i64 (at5 l 0), .int .i64 (at5 l 1), .int .i64 (at5 l 2), .int .i64 (at5 l 3), .int .i64 (at5 l 4)] 97)
      have hml := flt_len q ps k
      have hln := HNN.out
      have hownA : OwnP (wr.alloc (.cells #[.int .i64 (at5 l 0), .int .i64 (at5 l 1), .int .i64 (at5 l 2), .int .i64 (at5 l 3), .int .i64 (at5 l 4)] 97)) w.heap.size _ ((ps.take k).filter q) := hown.kept fun j hj _ => hbA.block j hj
      have hlt' := hown.lt
      have hcall := Lib.hid (HCL.out l (List.mem_of_getElem? hx) (wr.alloc (.cells #[.int .i64 (at5 l 0), .int .i64 (at5 l 1), .int .i64 (at5 l 2), .int .i64 (at5 l 3), .int .i64 (at5 l 4)] 97)) (hB3.trans (hbA.mono (by omega))))
      clear hx
      cases hm : q l
      · have HM := Lib.hid hm
        have HU := Lib.hid (flt_skip (f := q) HX.out hm)
        clear hm
        go_wp2_with fail
        refine hcall.out.mono ?_
        rintro e w2 ⟨rfl, hb2⟩
        rw [HM.out]
        have hown2 : OwnP w2 w.heap.size _ ((ps.take k).filter q) := hownA.kept fun j hj _ => hb2.block j hj
        have hb02 := hbA.trans (hb2.mono (by simp))
        rw [← HU.out] at hown2
        have hB5 : Below w.heap.size w w2 := hB3.trans (hb02.mono (by omega))
        clear hownA hown hc0 hc1 hc2 hc3' hc4 hbA hb2 hlt' hb02 hB3
        go_wp2
        go_roundw
        case rel => exact ⟨k + 1, by omega, by go_num, hown2, hB5⟩
        case measure => simp [intOf]; omega
      · have HM := Lib.hid hm
        have HU := Lib.hid (flt_step (f := q) HX.out hm)
        clear hm
        go_wp2_with fail
        refine hcall.out.mono ?_
        rintro e w2 ⟨rfl, hb2⟩
        rw [HM.out]
        have hown2 : OwnP w2 w.heap.size _ ((ps.take k).filter q) := hownA.kept fun j hj _ => hb2.block j hj
        have hb02 := hbA.trans (hb2.mono (by simp))
        have hs2 := hb02.size
        obtain ⟨e0, e1, e2, e3, e4⟩ := cells5 ((hb2.block wr.heap.size (by simp)).trans (heap_alloc_new wr (.cells #[.int .i64 (at5 l 0), .int .i64 (at5 l 1), .int .i64 (at5 l 2), .int .i64 (at5 l 3), .int .i64 (at5 l 4)] 97)))
        clear hownA hown hc0 hc1 hc2 hc3' hc4 hbA hb2
        go_wp2_with (first
          | (at_builtin; refine wpList_appP rfl _ _ rfl w.heap.size _ ((ps.take k).filter q) rfl hown2 l _ rfl rfl (by omega) (by omega) ?_; intro v5 w5 hown5 hg5)
          | go_in)
        rw [← HU.out] at hown5
        have hB5 : Below w.heap.size w w5 := (hB3.trans (hb02.mono (by omega))).trans (hg5.below (fun g hg => (hlt' g hg).1) (by omega))
        clear hg5 hlt' hown2 hb02 hB3
        go_roundw
        case rel => exact ⟨k + 1, by omega, by go_num, hown5, hB5⟩
        case measure => simp [intOf]; omega
    · have HKE : Hid (ps.take k = ps) := List.take_of_length_le (by have := HNN.out; omega)
      go_wp2
      go_ret
      rw [HKE.out] at hown
      exact ⟨_, rfl, hown, hB3⟩



end Go.Proofs.Ytehoagbpgahopaa
