/- Walks: tests that part patterns: how evenly, by the model and by the program. -/
import Derived.Test.YtehoagbpgahopaaTe
import Derived.Test.YtehoagbpgahopaaTb
import Derived.Test.YtehoagbpgahopaaYg
namespace Go.Proofs.Ytehoagbpgahopaa
open Go Go.RowKit Go.Shelf

attribute [local go_sem] Oper.semAt_some

/-- how unevenly a test of an array parts patterns -/
def dfN (ps : List (List Int)) (T : Nat → Int) : Nat := (2 * (met5 ps T : Int) - ps.length).natAbs
theorem met5_all_le (ps : List (List Int)) (T : Nat → Int) : met5 ps T ≤ ps.length := List.countP_le_length
theorem dfN_le (ps : List (List Int)) (T : Nat → Int) : dfN ps T ≤ ps.length := by have := met5_all_le ps T; unfold dfN; omega
theorem df_un {ps : List (List Int)} {x : List Int} (h5 : x.length ≤ 5) (h : ∀ p ∈ ps, p.length = x.length) : dfN ps (at5 x) = unN ps x := by
  unfold dfN unN; rw [met_fr h5 h]

set_option maxRecDepth 100000 in
set_option maxHeartbeats 2000000 in
theorem i_patternsIn {s : List (List Int)} {a : Option Addr} {c lo hi : Nat} {w : World} (hs : RII w lo hi a s) (hB : hi ≤ w.heap.size) (hl : s.length ≤ 1048576) (hr : ∀ r ∈ s, r.length ≤ 5) :
    Calls Try.prog 213 #[.slice a s.length c] w (NewP w s) := by
  have HR := Lib.hid hr; clear hr
  go_enter Try.func213, Try.ntmps213
  go_wp2
  go_loopw [3, 8] (fun v i wr => ∃ k : Nat, k ≤ s.length ∧ i = .int .i64 k ∧ OwnP wr w.heap.size v (s.take k) ∧ Below w.heap.size w wr) (fun _ i _ => s.length - (intOf i).toNat)
  case atStart => exact ⟨0, Nat.zero_le _, rfl, OwnP.nil _ _, Below.refl _ _⟩
  case round =>
    obtain ⟨k, hk, rfl, hown, hd⟩ := hrel
    have hz := hd.size
    by_cases hlt : k < s.length
    · obtain ⟨b, o, a3, c3, r, ha, _, hbh, hcell, hrr, hx⟩ := (hs.below hd hB).at hlt
      have hidx := idxII ha hlt c
      have hrl := HR.out r (List.mem_of_getElem? hx.out)
      have HT : Hid (s.take k ++ [r] = s.take (k + 1)) := (take_snoc hx.out).symm
      have hkl : (s.take k).length ≤ k := by simp; omega
      obtain ⟨ps, hps⟩ : ∃ ps, s.take k = ps := ⟨_, rfl⟩
      rw [hps] at hown HT hkl
      clear ha hs hps
      go_wp2_with fail
      refine (i_patternOf hrr (by omega) hrl).mono ?_
      rintro e w2 ⟨rfl, hb2⟩
      have hown2 : OwnP w2 w.heap.size _ ps := hown.kept fun j hj _ => hb2.block j hj
      have hz2 := hb2.size
      have hlt' := hown2.lt
      go_wp2_with (first
        | (at_builtin; refine wpList_appP rfl _ _ rfl w.heap.size _ ps rfl hown2 r _ rfl rfl (by omega) (by omega) ?_; intro v5 w5 hown5 hg5)
        | go_in)
      rw [HT.out] at hown5
      have hd5 := (hd.trans (hb2.mono hz)).trans (hg5.below (fun g hg => (hlt' g hg).1) (by omega))
      clear hg5 hlt' hown2 hd hb2 hown
      go_roundw
      case rel => exact ⟨k + 1, by omega, by go_num, hown5, hd5⟩
      case measure => simp [intOf]; omega
    · have HKE : Hid (s.take k = s) := List.take_of_length_le (by omega)
      go_wp2
      go_ret
      rw [HKE.out] at hown
      exact ⟨_, rfl, hown, hd⟩

set_option maxRecDepth 100000 in
set_option maxHeartbeats 2000000 in
theorem i_differenceBy {ps : List (List Int)} {v : Value} {B : Nat} {w0 w : World} (T : Nat → Int) (ho : OwnP w0 B v ps) (hb0 : Below w0.heap.size w0 w) (hl : ps.length ≤ 1048576) :
    Calls Try.prog 247 #[.agg #[.int .i64 (T 0), .int .i64 (T 1), .int .i64 (T 2), .int .i64 (T 3), .int .i64 (T 4)], v] w (NewV w (.int .i64 (dfN ps T : Nat))) := by
  obtain ⟨a, c, rfl, hat⟩ := ho.at
  have HAT := Lib.hid hat
  obtain ⟨M, hM⟩ : ∃ M, ps.length = M := ⟨_, rfl⟩
  have HNN := Lib.hid hM
  have hMl : M ≤ 1048576 := by omega
  have hs0 := hb0.size
  rw [hM]
  clear hat ho hM hl
  have hw1 : (w.alloc (.cells #[.int .i64 (T 0), .int .i64 (T 1), .int .i64 (T 2), .int .i64 (T 3), .int .i64 (T 4)] 97)).heap[w.heap.size]? = some (.cells #[.int .i64 (T 0), .int .i64 (T 1), .int .i64 (T 2), .int .i64 (T 3), .int .i64 (T 4)] 97 (0, 0)) := heap_alloc_new _ _
  have hst : Below (w.heap.size + 1) (w.alloc (.cells #[.int .i64 (T 0), .int .i64 (T 1), .int .i64 (T 2), .int .i64 (T 3), .int .i64 (T 4)] 97)) (w.alloc (.cells #[.int .i64 (T 0), .int .i64 (T 1), .int .i64 (T 2), .int .i64 (T 3), .int .i64 (T 4)] 97)) := Below.refl _ _
  have hbW := (Below.refl w.heap.size w).alloc (Nat.le_refl _) (.cells #[.int .i64 (T 0), .int .i64 (T 1), .int .i64 (T 2), .int .i64 (T 3), .int .i64 (T 4)] 97)
  obtain ⟨W, hW⟩ : ∃ W, w.alloc (.cells #[.int .i64 (T 0), .int .i64 (T 1), .int .i64 (T 2), .int .i64 (T 3), .int .i64 (T 4)] 97) = W := ⟨_, rfl⟩
  have hWs : w.heap.size + 1 ≤ W.heap.size := by rw [← hW]; simp
  rw [hW] at hw1 hst hbW
  go_enter Try.func247, Try.ntmps247
  go_wp2
  clear hW
  go_loopw [5, 10] (fun d i wr => ∃ k q : Nat, k ≤ M ∧ i = .int .i64 k ∧ d = .int .i64 (2 * (q : Int) - k) ∧ q ≤ k ∧ Hid (q = met5 (ps.take k) T) ∧ Below (w.heap.size + 1) W wr) (fun _ i _ => M - (intOf i).toNat)
  case atStart => exact ⟨0, 0, Nat.zero_le _, rfl, rfl, Nat.le_refl _, by simp [Hid, met5], hst⟩
  case round =>
    clear hst
    obtain ⟨k, q, hk, rfl, rfl, hqk, hq, hB3⟩ := hrel
    have hz3 := hB3.size
    by_cases hlt : k < M
    · obtain ⟨l, hx⟩ := at_of_lt (show k < ps.length by have := HNN.out; omega)
      obtain ⟨g, hg1, hg2, hidx, hcs⟩ := HAT.out k l hx
      have HX := Lib.hid hx
      rw [HNN.out] at hidx
      have hBl3 : Below w0.heap.size w0 wr := (hb0.trans (hbW.mono (by omega))).trans (hB3.mono (by omega))
      have hc (j : Nat) (hj : j < 5) : wr.cell? ⟨g, k * 5 + j, none⟩ = some (.int .i64 (at5 l j)) := (hBl3.cell (p := ⟨g, k * 5 + j, none⟩) hg2).trans (hcs j hj)
      have hc0 := hc 0 (by omega)
      have hc1 := hc 1 (by omega)
      have hc2 := hc 2 (by omega)
      have hc3' := hc 3 (by omega)
      have hc4 := hc 4 (by omega)
      simp only [Nat.add_zero] at hc0
      have HST := Lib.hid (met5_step (T := T) hx)
      clear hc hcs hx
      have hbA := (Below.refl wr.heap.size wr).alloc (Nat.le_refl _) (.cells #[.int .i64 (at5 l 0), .int .i64 (at5 l 1), .int .i64 (at5 l 2), .int .i64 (at5 l 3), .int .i64 (at5 l 4)] 97)
      have hw1A : (wr.alloc (.cells #[.int .i64 (at5 l 0), .int .i64 (at5 l 1), .int .i64 (at5 l 2), .int .i64 (at5 l 3), .int .i64 (at5 l 4)] 97)).heap[w.heap.size]? = some (.cells #[.int .i64 (T 0), .int .i64 (T 1), .int .i64 (T 2), .int .i64 (T 3), .int .i64 (T 4)] 97 (0, 0)) := (hbA.block _ (by omega)).trans ((hB3.block _ (by omega)).trans hw1)
      obtain ⟨f0, f1, f2, f3, f4⟩ := cells5 hw1A
      clear hw1A
      cases hm : meet5 (at5 l) T
      · have HM := Lib.hid hm; clear hm
        have HQ : Hid (q = met5 (ps.take (k + 1)) T) := by show _ = _; rw [HST.out, HM.out, ← hq.out]; rfl
        go_wp2_with fail
        refine (i_meets (at5 l) T _).mono ?_
        rintro e w2 ⟨rfl, hb2⟩
        rw [HM.out]
        have hB5 : Below (w.heap.size + 1) W w2 := hB3.trans ((hbA.trans (hb2.mono (by simp))).mono (by omega))
        clear f0 f1 f2 f3 f4 hc0 hc1 hc2 hc3' hc4 hbA hb2 hB3
        go_wp2
        go_roundw
        case rel => exact ⟨k + 1, q, by omega, by go_num, by go_num, by omega, HQ, hB5⟩
        case measure => simp [intOf]; omega
      · have HM := Lib.hid hm; clear hm
        have HQ : Hid (q + 1 = met5 (ps.take (k + 1)) T) := by show _ = _; rw [HST.out, HM.out, ← hq.out]; rfl
        go_wp2_with fail
        refine (i_meets (at5 l) T _).mono ?_
        rintro e w2 ⟨rfl, hb2⟩
        rw [HM.out]
        have hB5 : Below (w.heap.size + 1) W w2 := hB3.trans ((hbA.trans (hb2.mono (by simp))).mono (by omega))
        clear f0 f1 f2 f3 f4 hc0 hc1 hc2 hc3' hc4 hbA hb2 hB3
        go_wp2
        go_roundw
        case rel => exact ⟨k + 1, q + 1, by omega, by go_num, by go_num, by omega, HQ, hB5⟩
        case measure => simp [intOf]; omega
    · have HQ : Hid (dfN ps T = (2 * (q : Int) - M).natAbs) := by
        have h1 := hq.out
        rw [List.take_of_length_le (by have := HNN.out; omega)] at h1
        show _ = _; unfold dfN; rw [HNN.out, h1]
      have hkM : k = M := by omega
      subst hkM
      go_wp2
      all_goals
        go_ret
        refine ⟨?_, hbW.trans (hB3.mono (by omega))⟩
        rw [HQ.out]; refine congrArg (fun z : Int => Ending.returned (Value.int .i64 z)) ?_; omega

set_option maxHeartbeats 1000000 in
theorem s_uneven {ps : List (List Int)} {x : List Int} {a a' : Option Addr} {c c' lo hi lo' hi' n q : Nat} {w : World} (hn : x.length = n) (hq : unN ps x = q) (hp : RII w lo hi a ps) (hx : RI w lo' hi' a' x) (hl : ps.length ≤ 1048576) (hxl : n ≤ 1048576) (hr : ∀ p ∈ ps, p.length ≤ n) :
    Calls Try.prog 215 #[.slice a ps.length c, .slice a' n c'] w (RO w (.int .i64 (q : Int))) := by
  have hle := frP_all_le ps x
  obtain ⟨f, hf⟩ : ∃ f, frP ps x = f := ⟨_, rfl⟩
  have HF := Lib.hid hf
  have HQ : Hid (max (2 * (f : Int) - ps.length) (-(2 * (f : Int) - ps.length)) = q) := by show _ = _; rw [← hf, unN_max, hq]
  rw [hf] at hle
  have hm := s_freshN (c := c) (c' := c') hn hf hp hx hl hxl hr
  clear hf hq hp hx
  go_enter Try.func215, Try.ntmps215
  go_wp2_with fail
  refine hm.mono ?_
  rintro e w1 ⟨rfl, d1⟩
  have hq := HQ.out
  go_wp2
  all_goals
    go_ret
    refine ⟨?_, d1⟩
    refine congrArg (fun z : Int => Ending.returned (Value.int .i64 z)) ?_; omega

set_option maxRecDepth 100000 in
set_option maxHeartbeats 4000000 in
theorem s_bestSplit {m : List Int} {ps : List (List Int)} {a a' : Option Addr} {c c' lo hi lo' hi' : Nat} {w : World} (hok : okM m = true) (hm : RI w lo hi a m) (hB : hi ≤ w.heap.size) (hP : RII w lo' hi' a' ps) (hB' : hi' ≤ w.heap.size) (hpl : ps.length ≤ 1048576) (hp : ∀ p ∈ ps, p.length ≤ m.length) :
    Calls Try.prog 214 #[.slice a m.length c, .slice a' ps.length c'] w (fun e w' => ∃ a1 c1, e = .returned (.slice a1 m.length c1) ∧ RI w' w.heap.size w'.heap.size a1 (bsL m ps) ∧ m.length ≤ c1 ∧ Below w.heap.size w w') := by
  have HNE := Lib.hid (ext_ne hok)
  have HR := Lib.hid (ext_row (m := m))
  have HLN := Lib.hid (ext_len hok)
  have HP := Lib.hid hp
  have hm5 := okM_len hok
  have HOK := Lib.hid hok
  have hbA := (Below.refl w.heap.size w).alloc (Nat.le_refl _) (.cells #[] 3)
  have hm3 := hm.below hbA (by omega)
  clear hok hp hm
  go_enter Try.func214, Try.ntmps214
  go_wp2_with fail
  refine (s_extend HOK.out m.length [] a ⟨w.heap.size, 0, none⟩ c 0 lo hi 0 0 _ (by simp) hm3 (by simp; omega) (RI.nil _ _ _ _) (by simp)).mono ?_
  rintro e W ⟨ad2, c2, rfl, h2, hb2⟩
  have HBS : Hid (bsL m ps = bstL (sgN ps) (extS m [])) := rfl
  obtain ⟨all, hall⟩ : ∃ all, extS m [] = all := ⟨_, rfl⟩
  rw [hall] at h2 HNE HR HLN HBS ⊢
  clear hall
  have hbW : Below w.heap.size w W := hbA.trans (hb2.mono (by simp))
  have hs2 := hbW.size
  have hA : RII W w.heap.size W.heap.size (some ad2) all := h2.rii.wide (by simp) (Nat.le_refl _)
  have hl := HLN.out
  have hP := hP.below hbW hB'
  obtain ⟨n, hn0⟩ : ∃ n, m.length = n := ⟨_, rfl⟩
  have HN := Lib.hid hn0
  rw [hn0] at HR HP hm5 ⊢
  have hn : n ≤ 1048576 := by omega
  clear h2 hb2 hbA hm3 hn0 hB hB'
  have hlen : 0 < all.length := by cases all with | nil => exact absurd rfl HNE.out | cons _ _ => simp
  obtain ⟨b0, o0, a0, c0, r0, ha0, _, _, hcell0, hr0, hx0, hcp0⟩ := hA.atc hlen
  have hidx0 : ∀ wx : World, (Instr.indexAt 24 (.slice (some ad2) all.length c2) (.int .i64 0)).run Try.prog wx = .ok (.pointer (some ⟨b0, o0, none⟩)) wx := fun wx => idxII ha0 hlen c2 wx
  rw [Nat.add_zero] at hcell0
  have HL0 := Lib.hid (HR.out r0 (List.mem_of_getElem? hx0.out))
  rw [HL0.out] at hcell0 hcp0
  have hst : Hid (bstL (sgN ps) (all.take 1) = r0) := by show _ = _; rw [take_snoc (k := 0) hx0.out]; simp [bstL_one]
  clear ha0
  go_wp2
  clear hcell0 hidx0
  go_loopw [6, 7] (fun v i wr => ∃ (k : Nat) (ab : Option Addr) (cb : Nat) (x : List Int), 1 ≤ k ∧ k ≤ all.length ∧ i = .int .i64 k ∧ v = .slice ab n cb ∧ RI wr w.heap.size W.heap.size ab x ∧ Hid (x = bstL (sgN ps) (all.take k) ∧ x.length = n) ∧ n ≤ cb ∧ Dr W wr) (fun _ i _ => all.length - (intOf i).toNat)
  case atStart => exact ⟨1, a0, c0, r0, Nat.le_refl _, hlen, rfl, rfl, hr0, ⟨hst.out.symm, HL0.out⟩, hcp0, Dr.refl _⟩
  case round =>
    clear hr0
    obtain ⟨k, ab, cb, x, hk1, hk, rfl, rfl, hb, hX, hcb, hd⟩ := hrel
    by_cases hlt : k < all.length
    · obtain ⟨b, o, a1, c1, r, ha, _, hbh, hcell, hr1, hx, hcp⟩ := (hA.dr hd).atc hlt
      have hidx := idxII ha hlt c2
      have hbs : b < wr.heap.size := World.block_lt_of_cell? wr _ hcell
      have HRL := Lib.hid (HR.out r (List.mem_of_getElem? hx.out))
      rw [HRL.out] at hcell hcp
      have hPd := hP.dr hd
      obtain ⟨fr, hfr⟩ : ∃ q, unN ps r = q := ⟨_, rfl⟩
      obtain ⟨fb, hfb⟩ : ∃ q, unN ps x = q := ⟨_, rfl⟩
      have HFR := Lib.hid hfr
      have HFB := Lib.hid hfb
      have HT := Lib.hid (bstL_snoc (sgN ps) (all := all.take k) r (by intro e; rw [List.take_eq_nil_iff] at e; rcases e with e | e; omega; rw [e] at hlt; simp at hlt))
      have HX := Lib.hid hx.out
      clear hfr hfb ha hx
      by_cases hgt : (fr : Int) < (fb : Int)
      · have HX2 : Hid (r = bstL (sgN ps) (all.take (k + 1)) ∧ r.length = n) := by
          refine ⟨?_, HRL.out⟩
          rw [take_snoc HX.out, HT.out, ← hX.out.1, btr_yes]
          rw [sgN_lt, HFR.out, HFB.out]; omega
        go_wp2_with fail
        refine (s_uneven HRL.out HFR.out hPd hr1 hpl hn HP.out).mono ?_
        rintro e w1 ⟨rfl, hd1⟩
        have hcell1 := ((Dr.below hd1 wr.heap.size).cell (p := ⟨b, o + k, none⟩) hbs).trans hcell
        go_wp2_with fail
        refine (s_uneven hX.out.2 HFB.out (hPd.dr hd1) (hb.dr hd1) hpl hn HP.out).mono ?_
        rintro e w2 ⟨rfl, hd2⟩
        have hcell2 := ((Dr.below hd2 wr.heap.size).cell (p := ⟨b, o + k, none⟩) hbs).trans hcell1
        have hd2 := Dr.trans hd1 hd2
        clear hcell hcell1 hd1
        go_wp2
        go_roundw
        case rel => exact ⟨k + 1, a1, c1, r, by omega, by omega, by go_num, rfl, hr1.dr hd2, HX2, hcp, Dr.trans hd hd2⟩
        case measure => simp [intOf]; omega
      · have HX2 : Hid (x = bstL (sgN ps) (all.take (k + 1)) ∧ x.length = n) := by
          refine ⟨?_, hX.out.2⟩
          rw [take_snoc HX.out, HT.out, ← hX.out.1, btr_no]
          rw [sgN_lt, HFR.out, HFB.out]; omega
        go_wp2_with fail
        refine (s_uneven HRL.out HFR.out hPd hr1 hpl hn HP.out).mono ?_
        rintro e w1 ⟨rfl, hd1⟩
        have hcell1 := ((Dr.below hd1 wr.heap.size).cell (p := ⟨b, o + k, none⟩) hbs).trans hcell
        go_wp2_with fail
        refine (s_uneven hX.out.2 HFB.out (hPd.dr hd1) (hb.dr hd1) hpl hn HP.out).mono ?_
        rintro e w2 ⟨rfl, hd2⟩
        have hcell2 := ((Dr.below hd2 wr.heap.size).cell (p := ⟨b, o + k, none⟩) hbs).trans hcell1
        have hd2 := Dr.trans hd1 hd2
        clear hcell hcell1 hd1
        go_wp2
        go_roundw
        case rel => exact ⟨k + 1, ab, cb, x, by omega, by omega, by go_num, rfl, hb.dr hd2, HX2, hcb, Dr.trans hd hd2⟩
        case measure => simp [intOf]; omega
    · have HKE : Hid (all.take k = all) := List.take_of_length_le (by omega)
      go_wp2
      go_ret
      have h9 := hX.out
      rw [HKE.out] at h9
      have hb9 : RI wr w.heap.size W.heap.size ab (bsL m ps) := by rw [HBS.out, ← h9.1]; exact hb
      exact ⟨ab, cb, by rw [HN.out]; rfl, hb9.wide (Nat.le_refl _) (Dr.le hd).2, by rw [HN.out]; exact hcb, hbW.trans (Dr.below hd _)⟩

/-- the most evenly, so far; 0 where no test parts them -/
def spO (g : List Int → Nat) (pre : List (List Int)) : Nat := if pre = [] then 0 else g (bstL g pre)
def spT (g : List Int → Nat) (pre : List (List Int)) (i : Nat) : Int := if 0 < spO g pre then at5 (bstL g pre) i else 0
theorem spO_yes {g : List Int → Nat} {pre : List (List Int)} {x : List Int} (h : spO g pre < g x) : spO g (pre ++ [x]) = g x ∧ ∀ i, spT g (pre ++ [x]) i = at5 x i := by
  have e : bstL g (pre ++ [x]) = x := by
    by_cases hne : pre = []
    · subst hne; rw [List.nil_append, bstL_one]
    · unfold spO at h; rw [if_neg hne] at h
      rw [bstL_snoc g x hne, btr_yes h]
  have e2 : spO g (pre ++ [x]) = g x := by unfold spO; rw [if_neg (by simp), e]
  refine ⟨e2, fun i => ?_⟩
  unfold spT; rw [e2, if_pos (by omega), e]
theorem spO_no {g : List Int → Nat} {pre : List (List Int)} {x : List Int} (h : ¬ spO g pre < g x) : spO g (pre ++ [x]) = spO g pre ∧ ∀ i, spT g (pre ++ [x]) i = spT g pre i := by
  by_cases hne : pre = []
  · subst hne
    have h0 : spO g [] = 0 := by simp [spO]
    have e2 : spO g ([] ++ [x]) = 0 := by unfold spO; rw [if_neg (by simp), List.nil_append, bstL_one]; omega
    refine ⟨e2.trans h0.symm, fun i => ?_⟩
    unfold spT; rw [e2, h0]; rfl
  · have h2 := h
    unfold spO at h2; rw [if_neg hne] at h2
    have e : bstL g (pre ++ [x]) = bstL g pre := by rw [bstL_snoc g x hne, btr_no h2]
    have e2 : spO g (pre ++ [x]) = spO g pre := by unfold spO; rw [if_neg (by simp), if_neg hne, e]
    refine ⟨e2, fun i => ?_⟩
    unfold spT; rw [e2, e]
theorem spT_nil (g : List Int → Nat) (i : Nat) : spT g [] i = 0 := by simp [spT, spO]
theorem spO_le {g : List Int → Nat} {N : Nat} (h : ∀ x, g x ≤ N) (pre : List (List Int)) : spO g pre ≤ N := by
  unfold spO; split
  · omega
  · exact h _
theorem spO_all {m : List Int} {ps : List (List Int)} (h : okM m = true) : spO (sgN ps) (extS m []) = sgN ps (bsL m ps) := by
  unfold spO; rw [if_neg (ext_ne h)]; rfl
theorem spB_O {m : List Int} {ps : List (List Int)} (h : okM m = true) : decide ((ps.length - spO (sgN ps) (extS m []) : Nat) < ps.length) = spB m ps ∧ (spB m ps = true → ∀ i, spT (sgN ps) (extS m []) i = at5 (bsL m ps) i) := by
  have hu := unN_le ps (bsL m ps)
  have he := spO_all (ps := ps) h
  refine ⟨?_, fun hb i => ?_⟩
  · unfold spB; rw [he]; unfold sgN
    rw [Bool.eq_iff_iff, decide_eq_true_eq, decide_eq_true_eq]; omega
  · unfold spB at hb; rw [decide_eq_true_eq] at hb
    unfold spT; rw [he, if_pos (sgN_pos.2 hb)]; rfl
theorem spO_congr {f g : List Int → Nat} {all : List (List Int)} (h : ∀ x ∈ all, f x = g x) : spO f all = spO g all ∧ ∀ i, spT f all i = spT g all i := by
  by_cases hne : all = []
  · subst hne; exact ⟨rfl, fun i => by rw [spT_nil, spT_nil]⟩
  · have e := bstL_congr h
    have e2 : spO f all = spO g all := by unfold spO; rw [if_neg hne, if_neg hne, h _ (bstL_mem f hne), e]
    refine ⟨e2, fun i => ?_⟩
    unfold spT; rw [e2, e]

theorem res_cell_tmp {fn : Func} {p u : Tmp} {ty : TypeId} (h : fn.results = #[.cell p ty, .tmp u]) (tmps : Array Value) (w : World) (g : Nat) (t : TypeId) (cs : Array Value) (fr : Nat × Nat) (n : Nat) (e : TypeId)
    (hp : tmps.getD p undef = .pointer (some ⟨g, 0, none⟩)) (hg : w.heap[g]? = some (.cells cs t fr)) (hu : Try.prog.underlying ty = some (.array n e)) (hi : (Try.prog.info? ty).map (·.size) = some cs.size) :
    (results fn tmps).run Try.prog w = .ok (.tuple #[.agg cs, tmps.getD u undef]) w := by
  rw [results_cell_tmp h, hp]
  simp [asAddr, Result.andThen, run_loadVar_row w g t ty cs fr (.array n e) hg hu rfl hi]

/-- the four boxes of splitOf, B ahead of them -/
structure SpI (B : Nat) (w : World) (v : Value) (N : Nat) (g : List Int → Nat) (pre : List (List Int)) (A : World) : Prop where
  h0 : A.heap[B]? = some (.cells #[v] 105 (0, 0))
  h1 : A.heap[B + 1]? = some (.cells #[.int .i64 ((fun _ => 0) 0), .int .i64 ((fun _ => 0) 1), .int .i64 ((fun _ => 0) 2), .int .i64 ((fun _ => 0) 3), .int .i64 ((fun _ => 0) 4)] 97 (0, 0))
  h2 : A.heap[B + 1 + 1]? = some (.cells #[.int .i64 (spT g pre 0), .int .i64 (spT g pre 1), .int .i64 (spT g pre 2), .int .i64 (spT g pre 3), .int .i64 (spT g pre 4)] 97 (0, 0))
  h3 : A.heap[B + 1 + 1 + 1]? = some (.cells #[.int .i64 ((N - spO g pre : Nat) : Int)] 3 (0, 0))
  up : Below w.heap.size w A
  sz : B + 5 ≤ A.heap.size
theorem SpI.turn {B : Nat} {w : World} {v : Value} {N : Nat} {g : List Int → Nat} {pre : List (List Int)} {A A' : World} (h : SpI B w v N g pre A) (hw : B = w.heap.size) (hos : A'.os = A.os) (ht : A'.tape = A.tape) (ho : A'.output = A.output) (hs : A.heap.size ≤ A'.heap.size)
    (hk : ∀ k, k < B + 4 → A'.heap[k]? = A.heap[k]?) : SpI B w v N g pre A' :=
  ⟨(hk _ (by omega)).trans h.h0, (hk _ (by omega)).trans h.h1, (hk _ (by omega)).trans h.h2, (hk _ (by omega)).trans h.h3,
    ⟨hos.trans h.up.os, ht.trans h.up.tape, ho.trans h.up.output, Nat.le_trans h.up.size hs, fun k hk1 => (hk k (by omega)).trans (h.up.block k hk1)⟩, by have := h.sz; omega⟩

set_option maxRecDepth 100000 in
set_option maxHeartbeats 4000000 in
theorem i_splitOf {m : List Int} {ps : List (List Int)} {a : Option Addr} {c lo hi : Nat} {v : Value} {Bp : Nat} {wp w : World} (hok : okM m = true) (hm : RI w lo hi a m) (hB : hi ≤ w.heap.size)
    (ho : OwnP wp Bp v ps) (hbp : Below wp.heap.size wp w) (hl : ps.length ≤ 1048576) (hr : ∀ p ∈ ps, p.length = m.length) :
    Calls Try.prog 212 #[.slice a m.length c, v] w (fun e w' => ∃ T : Nat → Int, e = .returned (.tuple #[.agg #[.int .i64 (T 0), .int .i64 (T 1), .int .i64 (T 2), .int .i64 (T 3), .int .i64 (T 4)], .bool (spB m ps)]) ∧ (spB m ps = true → ∀ i, T i = at5 (bsL m ps) i) ∧ Below w.heap.size w w') := by
  obtain ⟨av, cv, rfl, hat⟩ := ho.at
  clear hat
  obtain ⟨M, hM⟩ : ∃ M, ps.length = M := ⟨_, rfl⟩
  have HNN := Lib.hid hM
  have hMl : M ≤ 1048576 := by omega
  have hs0 := hbp.size
  have HOK := Lib.hid hok
  have hm5 := okM_len hok
  have HPR := Lib.hid hr
  obtain ⟨g, hg⟩ : ∃ g : List Int → Nat, g = fun x => M - dfN ps (at5 x) := ⟨_, rfl⟩
  have HG := Lib.hid hg
  have hgl : ∀ x, g x ≤ M := fun x => by rw [hg]; exact Nat.sub_le _ _
  have HGL := Lib.hid hgl
  have hdf : ∀ x, dfN ps (at5 x) ≤ M := fun x => by rw [← hM]; exact dfN_le _ _
  have HDF := Lib.hid hdf
  have HCG : Hid (∀ x ∈ extS m [], g x = sgN ps x) := fun x hx => by
    rw [hg]; unfold sgN
    show M - dfN ps (at5 x) = ps.length - unN ps x
    rw [df_un (by rw [ext_row x hx]; exact hm5.2) (fun p hp => by rw [hr p hp, ext_row x hx]), hM]
  rw [hM] at ho ⊢
  clear hok hM hg hgl hr hl hdf
  obtain ⟨g0, g1, g2, g3, g4, g5⟩ := alq4 w (.cells #[.slice av M cv] 105) (.cells #[.int .i64 ((fun _ => 0) 0), .int .i64 ((fun _ => 0) 1), .int .i64 ((fun _ => 0) 2), .int .i64 ((fun _ => 0) 3), .int .i64 ((fun _ => 0) 4)] 97) (.cells #[.int .i64 ((fun _ => 0) 0), .int .i64 ((fun _ => 0) 1), .int .i64 ((fun _ => 0) 2), .int .i64 ((fun _ => 0) 3), .int .i64 ((fun _ => 0) 4)] 97) (.cells #[.int .i64 (M : Int)] 3)
  refine (callsIn_wide (n := 3)).1 ?_
  refine callsIn_of_wp_marks Try.func212 rfl trivial ?_ rfl
  simp only [Try.ntmps212, List.size_toArray, List.length_cons, List.length_nil, Nat.reduceAdd, Nat.reduceSub, Array.replicate_succ, Array.replicate_zero, List.push_toArray, List.append_toArray, List.nil_append, List.cons_append]
  refine wpIn_wide.2 ?_
  go_wp2
  have hI0 : SpI w.heap.size w (.slice av M cv) M g [] (((((w.alloc (.cells #[.slice av M cv] 105)).alloc (.cells #[.int .i64 ((fun _ => 0) 0), .int .i64 ((fun _ => 0) 1), .int .i64 ((fun _ => 0) 2), .int .i64 ((fun _ => 0) 3), .int .i64 ((fun _ => 0) 4)] 97)).alloc (.cells #[.int .i64 ((fun _ => 0) 0), .int .i64 ((fun _ => 0) 1), .int .i64 ((fun _ => 0) 2), .int .i64 ((fun _ => 0) 3), .int .i64 ((fun _ => 0) 4)] 97)).alloc (.cells #[.int .i64 (M : Int)] 3)).alloc (.cells #[.slice a m.length c] 23)) := by
    have hbA := (Below.refl (w.heap.size + 4) ((((w.alloc (.cells #[.slice av M cv] 105)).alloc (.cells #[.int .i64 ((fun _ => 0) 0), .int .i64 ((fun _ => 0) 1), .int .i64 ((fun _ => 0) 2), .int .i64 ((fun _ => 0) 3), .int .i64 ((fun _ => 0) 4)] 97)).alloc (.cells #[.int .i64 ((fun _ => 0) 0), .int .i64 ((fun _ => 0) 1), .int .i64 ((fun _ => 0) 2), .int .i64 ((fun _ => 0) 3), .int .i64 ((fun _ => 0) 4)] 97)).alloc (.cells #[.int .i64 (M : Int)] 3))).alloc (by dsimp only; omega) (.cells #[.slice a m.length c] 23)
    dsimp only at hbA
    refine ⟨(hbA.block _ (by omega)).trans g0, (hbA.block _ (by omega)).trans g1, (hbA.block _ (by omega)).trans ?_, (hbA.block _ (by omega)).trans ?_, g4.trans (hbA.mono (by omega)), by simp⟩
    · simp only [spT_nil]; exact g2
    · rw [show spO g [] = 0 from rfl]; exact g3
  have hbm : (((((w.alloc (.cells #[.slice av M cv] 105)).alloc (.cells #[.int .i64 ((fun _ => 0) 0), .int .i64 ((fun _ => 0) 1), .int .i64 ((fun _ => 0) 2), .int .i64 ((fun _ => 0) 3), .int .i64 ((fun _ => 0) 4)] 97)).alloc (.cells #[.int .i64 ((fun _ => 0) 0), .int .i64 ((fun _ => 0) 1), .int .i64 ((fun _ => 0) 2), .int .i64 ((fun _ => 0) 3), .int .i64 ((fun _ => 0) 4)] 97)).alloc (.cells #[.int .i64 (M : Int)] 3)).alloc (.cells #[.slice a m.length c] 23)).heap[w.heap.size + 4]? = some (.cells #[.slice a m.length c] 23 (0, 0)) := by
    rw [← g5]; exact heap_alloc_new _ _
  obtain ⟨W, hW⟩ : ∃ W, (((((w.alloc (.cells #[.slice av M cv] 105)).alloc (.cells #[.int .i64 ((fun _ => 0) 0), .int .i64 ((fun _ => 0) 1), .int .i64 ((fun _ => 0) 2), .int .i64 ((fun _ => 0) 3), .int .i64 ((fun _ => 0) 4)] 97)).alloc (.cells #[.int .i64 ((fun _ => 0) 0), .int .i64 ((fun _ => 0) 1), .int .i64 ((fun _ => 0) 2), .int .i64 ((fun _ => 0) 3), .int .i64 ((fun _ => 0) 4)] 97)).alloc (.cells #[.int .i64 (M : Int)] 3)).alloc (.cells #[.slice a m.length c] 23)) = W := ⟨_, rfl⟩
  have hWs : W.heap.size = w.heap.size + 5 := by rw [← hW]; simp
  rw [hW] at hI0 hbm ⊢
  clear g0 g1 g2 g3 g4 g5 hW
  have hseq := testsOf1_seqQ (n₀ := w.heap.size) HOK.out (hm.below hI0.up hB) hB hbm (by omega) (by omega)
  refine (wpIn_wide (n := 3)).1 ?_
  refine wpIn_rangeQ (gf := 238) (lb := #[.pointer (some ⟨w.heap.size + 4, 0, none⟩)]) rfl (fun _ _ => rfl) hseq (by omega) (by omega) (by omega) (Bex.refl _ _ W) (fun _ => rfl)
    (SpI w.heap.size w (.slice av M cv) M g) (fun _ _ _ => False) ?hI (fun _ _ _ _ h _ => h) hI0
    (fun x a' A => ∃ Bx, W.heap.size + 2 + 1 ≤ Bx ∧ A.heap[Bx]? = some (.cells #[.int .i64 (at5 x 0), .int .i64 (at5 x 1), .int .i64 (at5 x 2), .int .i64 (at5 x 3), .int .i64 (at5 x 4)] 97 (0, 0)) ∧ a' = { tmps := #[.slice a m.length c, .slice av M cv, undef, .pointer (some ⟨w.heap.size, 0, none⟩), .pointer (some ⟨w.heap.size + 1, 0, none⟩), .bool false, .pointer (some ⟨w.heap.size + 1 + 1, 0, none⟩), .pointer (some ⟨w.heap.size + 1 + 1 + 1, 0, none⟩), .pointer (some ⟨Bx, 0, none⟩), undef, .slice av M cv, .int .i64 (M : Int), .slice a m.length c, .func (.func 238) #[] #[.pointer (some ⟨w.heap.size + 4, 0, none⟩)], .agg #[.int .i64 (at5 x 0), .int .i64 (at5 x 1), .int .i64 (at5 x 2), .int .i64 (at5 x 3), .int .i64 (at5 x 4)], undef, undef, undef, undef, undef, undef, undef, undef, undef, undef, undef, undef, undef], defers := [] }) ?hAx ?assign ?body ?done ?stop
  case hI =>
    intro pre A A' h hu
    exact h.turn rfl hu.os hu.tape hu.output hu.size (fun k hk => hu.block k (by have := h.sz; omega) (.inr (Nat.zero_le _)) (.inl (by omega)))
  case hAx =>
    rintro x a' A A' ⟨Bx, hBx, hc, rfl⟩ hu
    exact ⟨Bx, hBx, (hu.block _ (Array.getElem?_eq_some_iff.1 hc).1 (.inr (Nat.zero_le _)) (.inr hBx)).trans hc, rfl⟩
  case assign =>
    intro l pre x A Kk h hsz2 hK
    have hA := (Below.refl A.heap.size A).alloc (Nat.le_refl _) (.cells #[.int .i64 (at5 x 0), .int .i64 (at5 x 1), .int .i64 (at5 x 2), .int .i64 (at5 x 3), .int .i64 (at5 x 4)] 97)
    gi_wp2
    refine hK _ _ (Ke.ofBelow hA hsz2) (Bex.ofBelow hA) (h.turn rfl rfl rfl rfl (by simp) (fun k hk => hA.block k (by have := h.sz; omega))) ⟨A.heap.size, hsz2, heap_alloc_new _ _, rfl⟩
  case body =>
    rintro l pre x a' A h ⟨Bx, hBx, hc, rfl⟩ hpre hsz2
    have h0 := cell_of_row _ _ 0 _ _ _ h.h0
    simp at h0
    have hBxs := (Array.getElem?_eq_some_iff.1 hc).1
    obtain ⟨t0, t1, t2, t3, t4⟩ := cells5' hc
    have HH := Lib.hid h
    have HX := Lib.hid hc
    have hBA : w.heap.size + 5 ≤ A.heap.size := h.sz
    have hdc := i_differenceBy (w := A) (at5 x) ho (hbp.trans (h.up.mono hs0)) (by have := HNN.out; omega)
    have HDC := Lib.hid hdc
    obtain ⟨D, hD⟩ : ∃ D, dfN ps (at5 x) = D := ⟨_, rfl⟩
    have hDM : D ≤ M := by rw [← hD]; exact HDF.out x
    have HGD : Hid (g x = M - D) := by show _ = _; rw [HG.out, ← hD]
    rw [hD] at HDC
    obtain ⟨q, hq⟩ : ∃ q, spO g pre = q := ⟨_, rfl⟩
    have hqM : q ≤ M := by rw [← hq]; exact spO_le HGL.out pre
    have HQ := Lib.hid hq
    clear h hc hdc hD hq
    gi_wp2_with fail
    refine ⟨trivial, (CallsIn.inRound l (callsIn_wide.2 HDC.out)).mono ?_⟩
    rintro e w2 ⟨rfl, hb2⟩
    have hz2 := hb2.size
    have hn := HH.out.turn rfl hb2.os hb2.tape hb2.output hb2.size (fun k hk => hb2.block k (by omega))
    have h3 := cell_of_row _ _ 0 _ _ _ hn.h3
    rw [HQ.out] at h3
    simp at h3
    have hcx := (hb2.block Bx hBxs).trans HX.out
    have HN := Lib.hid hn; have HB := Lib.hid hb2
    have hBx2 : Bx < w2.heap.size := by omega
    clear hn hb2 HH t0 t1 t2 t3 t4 h0
    obtain ⟨t0, t1, t2, t3, t4⟩ := cells5' hcx
    by_cases hlt : (D : Int) < ((M - q : Nat) : Int)
    · have hdec : decide (D < M - q) = true := decide_eq_true (by omega)
      have e := spO_yes (g := g) (pre := pre) (x := x) (by rw [HQ.out, HGD.out]; omega)
      have E := Lib.hid e
      have hI := HN.out
      have b0 := frozen5 hI.h2 0
      have b1 := frozen5 hI.h2 1
      have b2 := frozen5 hI.h2 2
      have b3 := frozen5 hI.h2 3
      have b4 := frozen5 hI.h2 4
      have m0 := frozen5 hI.h3 0
      obtain ⟨d0, d1, d2, d3, d4⟩ := cells5' hI.h2
      clear e hlt hI
      gi_wp2
      obtain ⟨W5, hW5, hw5, hk5, hs5, ho5⟩ := set5w (w := w2) (by rfl) HN.out.h2 (.int .i64 (at5 x 0)) (.int .i64 (at5 x 1)) (.int .i64 (at5 x 2)) (.int .i64 (at5 x 3)) (.int .i64 (at5 x 4))
      rw [← hW5]
      have hI := HN.out
      have hB := HB.out
      have hst : ∀ k, k ≠ w.heap.size + 1 + 1 → k ≠ w.heap.size + 1 + 1 + 1 → (W5.setCell ⟨w.heap.size + 1 + 1 + 1, 0, none⟩ (.int .i64 (D : Int))).heap[k]? = w2.heap[k]? := fun k h1 h2 =>
        (Below.heap_setCell _ _ _ _ h2).trans (hk5 k h1)
      have h2' : (W5.setCell ⟨w.heap.size + 1 + 1 + 1, 0, none⟩ (.int .i64 (D : Int))).heap[w.heap.size + 1 + 1]? = some (.cells #[.int .i64 (at5 x 0), .int .i64 (at5 x 1), .int .i64 (at5 x 2), .int .i64 (at5 x 3), .int .i64 (at5 x 4)] 97 (0, 0)) :=
        (Below.heap_setCell _ _ _ _ (by simp)).trans hw5
      have h3' := set1w (w := W5) ((hk5 (w.heap.size + 1 + 1 + 1) (by omega)).trans hI.h3) (.int .i64 (D : Int))
      have hsz : (W5.setCell ⟨w.heap.size + 1 + 1 + 1, 0, none⟩ (.int .i64 (D : Int))).heap.size = w2.heap.size := by simp only [World.setCell, Array.size_modify]; exact hs5
      refine ⟨(Ke.ofBelow hB hsz2).trans fun k k1 k2 => hst k (by omega) (by omega), (Bex.ofBelow hB).trans ⟨ho5.1, ho5.2.1, ho5.2.2, by omega, fun k _ hk => hst k (by omega) (by omega)⟩, ⟨(hst _ (by omega) (by omega)).trans hI.h0, (hst _ (by omega) (by omega)).trans hI.h1, ?_, ?_, ⟨ho5.1.trans hI.up.os, ho5.2.1.trans hI.up.tape, ho5.2.2.trans hI.up.output, by have := hI.up.size; omega, fun k hk => (hst k (by omega) (by omega)).trans (hI.up.block k hk)⟩, by have := hI.sz; omega⟩⟩
      · simp only [E.out.2]; exact h2'
      · rw [E.out.1, HGD.out, show M - (M - D) = D by omega]; exact h3'
    · have hdec : decide (D < M - q) = false := decide_eq_false (by omega)
      have e := spO_no (g := g) (pre := pre) (x := x) (by rw [HQ.out, HGD.out]; omega)
      have E := Lib.hid e
      clear e hlt
      gi_wp2
      have hn := HN.out
      refine ⟨(Ke.ofBelow HB.out hsz2), Bex.ofBelow HB.out, ⟨hn.h0, hn.h1, ?_, ?_, hn.up, hn.sz⟩⟩
      · simp only [E.out.2]; exact hn.h2
      · rw [E.out.1]; exact hn.h3
  case done =>
    rintro D A hD1 hD2 h hk
    have hcg := spO_congr HCG.out
    have hsb := spB_O (ps := ps) HOK.out
    obtain ⟨d0, d1, d2, d3, d4⟩ := cells5' h.h2
    have b0 := frozen5 h.h1 0
    have b1 := frozen5 h.h1 1
    have b2 := frozen5 h.h1 2
    have b3 := frozen5 h.h1 3
    have b4 := frozen5 h.h1 4
    obtain ⟨r0, r1, r2, r3, r4⟩ := cells5' (P := fun _ => 0) h.h1
    have c0 := cell_of_row _ _ 0 _ _ _ h.h0
    have c3 := cell_of_row _ _ 0 _ _ _ h.h3
    simp at c0 c3
    have HH := Lib.hid h
    have HSB : Hid (decide (M - spO g (extS m []) < M) = spB m ps) := by
      show _ = _; rw [hcg.1, ← hsb.1, HNN.out]
    have HST : Hid (spB m ps = true → ∀ i, spT g (extS m []) i = at5 (bsL m ps) i) := fun hb i => by rw [hcg.2]; exact hsb.2 hb i
    clear h hcg hsb
    go_wp2_with fail
    go_region
    have h := HH.out
    obtain ⟨W5, hW5, hw5, hk5, hs5, ho5⟩ := set5w (w := A) (by rfl) h.h1 (.int .i64 (spT g (extS m []) 0)) (.int .i64 (spT g (extS m []) 1)) (.int .i64 (spT g (extS m []) 2)) (.int .i64 (spT g (extS m []) 3)) (.int .i64 (spT g (extS m []) 4))
    rw [← hW5, HSB.out]
    go_wp2
    have hk5' : W5.drew.heap[D]? = some (.deferred (some [])) := (hk5 D (by omega)).trans hk
    refine ⟨by simp, .inl ⟨_, _, rfl, run_takeDeferred hk5', ?_⟩⟩
    have hw6 : (W5.drew.putObj D (.deferred none)).heap[w.heap.size + 1]? = some (.cells #[.int .i64 (spT g (extS m []) 0), .int .i64 (spT g (extS m []) 1), .int .i64 (spT g (extS m []) 2), .int .i64 (spT g (extS m []) 3), .int .i64 (spT g (extS m []) 4)] 97 (0, 0)) := (World.putObj_heap_other (by omega)).trans hw5
    refine ⟨_, res_cell_tmp Try.results212 _ _ _ _ _ (0, 0) 5 3 rfl hw6 undPat infoPatB, spT g (extS m []), rfl, HST.out, ⟨ho5.1.trans h.up.os, ho5.2.1.trans h.up.tape, ho5.2.2.trans h.up.output, ?_, fun k hk => ?_⟩⟩
    · have := h.up.size; simp; omega
    · exact (World.putObj_heap_other (by omega)).trans ((hk5 k (by omega)).trans (h.up.block k hk))
  case stop =>
    rintro D c pre A _ _ _ h _
    exact h.elim

end Go.Proofs.Ytehoagbpgahopaa
