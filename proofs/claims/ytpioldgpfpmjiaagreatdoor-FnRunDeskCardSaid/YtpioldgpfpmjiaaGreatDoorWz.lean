/- Walks: the patterns that a test matches are taken out of the map. -/
import Derived.Test.YtpioldgpfpmjiaaGreatDoorMap
import Derived.Test.YtpioldgpfpmjiaaGreatDoorWs
namespace Go.Proofs.YtpioldgpfpmjiaaGreatDoor
open Go.RowKit

def cl (ps : List (List Int)) (T : Nat → Int) (S : List Int → Bool) (k : Nat) (q : List Int) : Bool := S q && !((ps.take k).contains q && meet5 (at5 q) T)
theorem cl_zero (ps : List (List Int)) (T : Nat → Int) (S : List Int → Bool) (q : List Int) : cl ps T S 0 q = S q := by simp [cl]
theorem cl_hit {ps : List (List Int)} {T : Nat → Int} {S : List Int → Bool} {k : Nat} {l : List Int} (hx : ps[k]? = some l) (h : meet5 (at5 l) T = true) (q : List Int) : (q != l && cl ps T S k q) = cl ps T S (k + 1) q := by
  unfold cl
  rw [take_snoc hx]
  by_cases e : q = l
  · subst e; simp [h]
  · have e2 : (q != l) = true := by rw [bne_iff_ne]; exact e
    rw [e2, Bool.true_and]
    congr 3
    simp [List.contains_eq_mem, e]
theorem cl_miss {ps : List (List Int)} {T : Nat → Int} {S : List Int → Bool} {k : Nat} {l : List Int} (hx : ps[k]? = some l) (h : meet5 (at5 l) T = false) (q : List Int) : cl ps T S k q = cl ps T S (k + 1) q := by
  unfold cl
  rw [take_snoc hx]
  by_cases e : q = l
  · subst e; simp [h]
  · congr 3
    simp [List.contains_eq_mem, e]
theorem cl_end {ps : List (List Int)} {T : Nat → Int} {S : List Int → Bool} {k : Nat} (hk : ps.length ≤ k) (q : List Int) (hq : q ∈ ps) : cl ps T S k q = (S q && !meet5 (at5 q) T) := by
  unfold cl
  rw [List.take_of_length_le hk]
  simp [List.contains_eq_mem, hq]

/-- a call that turns one map, and makes new memory -/
def MpTo (w : World) (b n : Nat) (ps : List (List Int)) (S : List Int → Bool) (e : Ending) (w' : World) : Prop := e = .returned (.tuple #[]) ∧ Mp w' b n ps S ∧ Upd b (b + 1) w w'

theorem upd_alloc {b : Nat} {a w : World} (h : Upd b (b + 1) a w) (o : Obj) : Upd b (b + 1) a (w.alloc o) :=
  h.trans ⟨rfl, rfl, rfl, by simp, fun k hk _ => Below.heap_alloc w _ k hk⟩
theorem upd_below {b : Nat} {a w w' : World} (h : Upd b (b + 1) a w) (hb : Below w.heap.size w w') : Upd b (b + 1) a w' :=
  h.trans ⟨hb.os, hb.tape, hb.output, hb.size, fun k hk _ => hb.block k hk⟩

set_option maxRecDepth 100000 in
set_option maxHeartbeats 2000000 in
theorem i_closeMatched {ps : List (List Int)} {v : Value} {B n N b : Nat} {S : List Int → Bool} {w0 w : World} (T : Nat → Int) (ho : OwnP w0 B v ps) (hb0 : Below w0.heap.size w0 w) (hb : w0.heap.size ≤ b) (hps : PS ps N) (hmp : Mp w b n ps S) (hl : ps.length ≤ 1048576) :
    Calls Tryz.prog 98 #[.map (some b), v, .agg #[.int .i64 (T 0), .int .i64 (T 1), .int .i64 (T 2), .int .i64 (T 3), .int .i64 (T 4)]] w (MpTo w b n ps (fun q => S q && !meet5 (at5 q) T)) := by
  obtain ⟨a, c, rfl, hat⟩ := ho.at
  have HAT := Lib.hid hat
  obtain ⟨M, hM⟩ : ∃ M, ps.length = M := ⟨_, rfl⟩
  have HNN := Lib.hid hM
  have hMl : M ≤ 1048576 := by omega
  have hbw := hmp.lt
  have hs0 := hb0.size
  rw [hM]
  clear hat ho hM hl
  have hw1 : (w.alloc (.cells #[.int .i64 (T 0), .int .i64 (T 1), .int .i64 (T 2), .int .i64 (T 3), .int .i64 (T 4)] 130)).heap[w.heap.size]? = some (.cells #[.int .i64 (T 0), .int .i64 (T 1), .int .i64 (T 2), .int .i64 (T 3), .int .i64 (T 4)] 130 (0, 0)) := heap_alloc_new _ _
  have hst : Mp (w.alloc (.cells #[.int .i64 (T 0), .int .i64 (T 1), .int .i64 (T 2), .int .i64 (T 3), .int .i64 (T 4)] 130)) b n ps (cl ps T S 0) := (hmp.below ((Below.refl _ w).alloc (Nat.le_refl _) _) hbw).congr fun p _ => (cl_zero ps T S p).symm
  go_enter Tryz.func98, Tryz.ntmps98
  go_wp2
  go_loopw [10] (fun i wr => ∃ k : Nat, k ≤ M ∧ i = .int .i64 k ∧ Mp wr b n ps (cl ps T S k) ∧ Upd b (b + 1) w wr ∧ w.heap.size < wr.heap.size ∧ Hid (wr.heap[w.heap.size]? = some (.cells #[.int .i64 (T 0), .int .i64 (T 1), .int .i64 (T 2), .int .i64 (T 3), .int .i64 (T 4)] 130 (0, 0)))) (fun i _ => M - (intOf i).toNat)
  case atStart => exact ⟨0, Nat.zero_le _, rfl, hst, upd_alloc (Upd.refl _ _ _) _, by simp, hw1⟩
  case round =>
    clear hst hw1
    obtain ⟨k, hk, rfl, hmpk, hU, hsz, hw1⟩ := hrel
    by_cases hlt : k < M
    · obtain ⟨l, hx⟩ := at_of_lt (show k < ps.length by have := HNN.out; omega)
      obtain ⟨g, hg1, hg2, hidx, hcs⟩ := HAT.out k l hx
      have HX := Lib.hid hx
      rw [HNN.out] at hidx
      have hc (j : Nat) (hj : j < 5) : wr.cell? ⟨g, k * 5 + j, none⟩ = some (.int .i64 (at5 l j)) :=
        (World.cell?_of_block (w := w) (a := ⟨g, k * 5 + j, none⟩) (hU.block g (by omega) (.inl (by omega)))).trans ((hb0.cell (p := ⟨g, k * 5 + j, none⟩) hg2).trans (hcs j hj))
      have hc0 := hc 0 (by omega)
      have hc1 := hc 1 (by omega)
      have hc2 := hc 2 (by omega)
      have hc3' := hc 3 (by omega)
      have hc4 := hc 4 (by omega)
      simp only [Nat.add_zero] at hc0
      clear hc hcs hx
      have hbA := (Below.refl wr.heap.size wr).alloc (Nat.le_refl _) (.cells #[.int .i64 (at5 l 0), .int .i64 (at5 l 1), .int .i64 (at5 l 2), .int .i64 (at5 l 3), .int .i64 (at5 l 4)] 130)
      have hw1A : (wr.alloc (.cells #[.int .i64 (at5 l 0), .int .i64 (at5 l 1), .int .i64 (at5 l 2), .int .i64 (at5 l 3), .int .i64 (at5 l 4)] 130)).heap[w.heap.size]? = some (.cells #[.int .i64 (T 0), .int .i64 (T 1), .int .i64 (T 2), .int .i64 (T 3), .int .i64 (T 4)] 130 (0, 0)) := (hbA.block _ hsz).trans hw1.out
      obtain ⟨f0, f1, f2, f3, f4⟩ := cells5 hw1A
      clear hw1A
      cases hm : meet5 (at5 l) T
      · have HM := Lib.hid hm; clear hm
        go_wp2_with fail
        refine (i_meets (at5 l) T _).mono ?_
        rintro e w2 ⟨rfl, hb2⟩
        rw [HM.out]
        have hb02 : Below wr.heap.size wr w2 := hbA.trans (hb2.mono (by simp))
        have hmp2 := (hmpk.below hb02 (by omega)).congr fun p _ => cl_miss HX.out HM.out p
        have hU2 := upd_below hU hb02
        have hs2 := hb02.size
        have hw2 : Hid (w2.heap[w.heap.size]? = some (.cells #[.int .i64 (T 0), .int .i64 (T 1), .int .i64 (T 2), .int .i64 (T 3), .int .i64 (T 4)] 130 (0, 0))) := (hb02.block _ hsz).trans hw1.out
        clear hb02 hb2 hbA hmpk hU hc0 hc1 hc2 hc3' hc4 f0 f1 f2 f3 f4
        go_wp2
        go_roundw
        case rel => exact ⟨k + 1, by omega, by go_num, hmp2, hU2, by omega, hw2⟩
        case measure => simp [intOf]; omega
      · have HM := Lib.hid hm; clear hm
        go_wp2_with fail
        refine (i_meets (at5 l) T _).mono ?_
        rintro e w2 ⟨rfl, hb2⟩
        rw [HM.out]
        have hb02 : Below wr.heap.size wr w2 := hbA.trans (hb2.mono (by simp))
        have hmp2 := hmpk.below hb02 (by omega)
        have hU2 := upd_below hU hb02
        have hs2 := hb02.size
        have hw2 : Hid (w2.heap[w.heap.size]? = some (.cells #[.int .i64 (T 0), .int .i64 (T 1), .int .i64 (T 2), .int .i64 (T 3), .int .i64 (T 4)] 130 (0, 0))) := (hb02.block _ hsz).trans hw1.out
        obtain ⟨e0, e1, e2, e3, e4⟩ := cells5 ((hb2.block wr.heap.size (by simp)).trans (heap_alloc_new wr (.cells #[.int .i64 (at5 l 0), .int .i64 (at5 l 1), .int .i64 (at5 l 2), .int .i64 (at5 l 3), .int .i64 (at5 l 4)] 130)))
        clear hb02 hb2 hbA hmpk hU hc0 hc1 hc2 hc3' hc4 f0 f1 f2 f3 f4
        go_wp2_with (first
          | (at_delete; refine wpList_delP rfl _ _ rfl b n hps rfl hmp2 l (List.mem_of_getElem? HX.out) rfl ?_; intro w3 hmp3 hU3)
          | go_in)
        have hmp4 := hmp3.congr fun p _ => cl_hit HX.out HM.out p
        have hw3 : Hid (w3.heap[w.heap.size]? = some (.cells #[.int .i64 (T 0), .int .i64 (T 1), .int .i64 (T 2), .int .i64 (T 3), .int .i64 (T 4)] 130 (0, 0))) := (hU3.block _ (by omega) (by omega)).trans hw2.out
        have hs3 := hU3.size
        have hU4 := hU2.trans hU3
        clear hmp3 hU3 hU2 hmp2
        go_roundw
        case rel => exact ⟨k + 1, by omega, by go_num, hmp4, hU4, by omega, hw3⟩
        case measure => simp [intOf]; omega
    · have HE := Lib.hid fun q hq => cl_end (ps := ps) (T := T) (S := S) (k := k) (by have := HNN.out; omega) q hq
      go_wp2
      (try simp only [Exit.inBlock, Exit.then])
      first | refine bodyPost_ret (results_none rfl _ _ _) rfl ?_ | refine bodyPost_end (results_none rfl _ _ _) rfl ?_
      exact ⟨rfl, hmpk.congr HE.out, hU⟩

end Go.Proofs.YtpioldgpfpmjiaaGreatDoor
