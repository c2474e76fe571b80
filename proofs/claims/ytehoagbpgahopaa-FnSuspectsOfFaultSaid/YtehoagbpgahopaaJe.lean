/- Walks: SuspectsOf and CulpritsOf, by the program. -/
import Derived.Test.YtehoagbpgahopaaJd
namespace Go.Proofs.Ytehoagbpgahopaa
open Go.RowKit

theorem cell5s {w : World} {b t : Nat} {P : Nat → Int} (h : w.heap[b]? = some (.cells #[.int .i64 (P 0), .int .i64 (P 1), .int .i64 (P 2), .int .i64 (P 3), .int .i64 (P 4)] t (0, 0))) : w.cell? ⟨b, 0, none⟩ = some (.int .i64 (P 0)) ∧ w.cell? ⟨b, 1, none⟩ = some (.int .i64 (P 1)) ∧ w.cell? ⟨b, 2, none⟩ = some (.int .i64 (P 2)) ∧ w.cell? ⟨b, 3, none⟩ = some (.int .i64 (P 3)) ∧ w.cell? ⟨b, 4, none⟩ = some (.int .i64 (P 4)) := cells5 h
theorem asPF (v : Value) (wx : World) : (Instr.typeAssert (.iface 192 v) 158 191 true).run Try.prog wx = .ok (.tuple #[.agg #[.int .i64 ((fun _ => 0) 0), .int .i64 ((fun _ => 0) 1), .int .i64 ((fun _ => 0) 2), .int .i64 ((fun _ => 0) 3), .int .i64 ((fun _ => 0) 4)], .bool false]) wx := by kernel_rfl
theorem asPP (v : Value) (wx : World) : (Instr.typeAssert (.iface 191 v) 158 191 true).run Try.prog wx = .ok (.tuple #[v, .bool true]) wx := by kernel_rfl
theorem asFF (v : Value) (wx : World) : (Instr.typeAssert (.iface 192 v) 158 192 true).run Try.prog wx = .ok (.tuple #[v, .bool true]) wx := by kernel_rfl
theorem asFP (v : Value) (wx : World) : (Instr.typeAssert (.iface 191 v) 158 192 true).run Try.prog wx = .ok (.tuple #[.agg #[.int .i64 ((fun _ => 0) 0), .int .i64 ((fun _ => 0) 1), .int .i64 ((fun _ => 0) 2), .int .i64 ((fun _ => 0) 3), .int .i64 ((fun _ => 0) 4)], .bool false]) wx := by kernel_rfl

set_option maxHeartbeats 1000000 in
theorem i_canJudge {m : List Int} {s : List (List Int)} {f : List Bool} {a a1 a2 : Option Addr} {c c1 c2 lo hi lo1 hi1 : Nat} {w : World} {t : Int} (hm : RI w lo hi a m) (hlm : m.length ≤ 9223372036854775807) (hs : RII w lo1 hi1 a1 s) (hls : s.length ≤ 9223372036854775807) (hg : ∀ r ∈ s, r.length ≤ 9223372036854775807) (_hlf : f.length ≤ 9223372036854775807) :
    Calls Try.prog 201 #[.slice a m.length c, .slice a1 s.length c1, .slice a2 f.length c2, .int .i64 t] w (RO w (.bool (jdG m s f t))) := by
  cases hc : okC m s t
  · have HC := Lib.hid hc; clear hc
    have HJ : Hid (jdG m s f t = false) := by show _ = _; unfold jdG; rw [HC.out]; rfl
    go_enter Try.func201, Try.ntmps201
    go_wp2_with fail
    refine (i_canCover hm hlm hs hls hg).mono ?_
    rintro e w1 ⟨rfl, hd⟩
    rw [HC.out]
    go_wp2
    go_ret
    exact Dr.boolD (b := false) hd HJ.out.symm
  · have HC := Lib.hid hc; clear hc
    have HJ : Hid (((f.length : Int) == (s.length : Int)) = jdG m s f t) := by
      show _ = _; unfold jdG; rw [HC.out, Bool.true_and, Bool.eq_iff_iff, beq_iff_eq, decide_eq_true_eq]; omega
    go_enter Try.func201, Try.ntmps201
    go_wp2_with fail
    refine (i_canCover hm hlm hs hls hg).mono ?_
    rintro e w1 ⟨rfl, hd⟩
    rw [HC.out]
    go_wp2
    go_ret
    exact Dr.boolD hd HJ.out

set_option maxRecDepth 100000 in
set_option maxHeartbeats 4000000 in
theorem i_isSuspect {s : List (List Int)} {f : List Bool} {p : List Int} {v : Value} {B n : Nat} {w0 w : World} (ho : OwnRs w0 B v s.length (resV s f)) (hb0 : Below w0.heap.size w0 w) (hlen : f.length = s.length) (hl : s.length ≤ 1048576) (hr : ∀ r ∈ s, r.length = n) (hp : p.length = n) (hn : n ≤ 5) :
    Calls Try.prog 204 #[v, .agg #[.int .i64 (at5 p 0), .int .i64 (at5 p 1), .int .i64 (at5 p 2), .int .i64 (at5 p 3), .int .i64 (at5 p 4)]] w (NewV w (.bool (susF s f p))) := by
  obtain ⟨av, cv, rfl, hat⟩ := ho.at
  have HAT := Lib.hid hat
  have HR := Lib.hid hr
  have HP := Lib.hid hp
  have hs0 := hb0.size
  obtain ⟨N, hN⟩ : ∃ N, s.length = N := ⟨_, rfl⟩
  have HN := Lib.hid hN
  have HF : Hid (f.length = N) := by show _ = _; omega
  have hNl : N ≤ 1048576 := by omega
  rw [hN] at HAT ⊢
  have hA := Lib.hid (heap_alloc_new w (.cells #[.int .i64 (at5 p 0), .int .i64 (at5 p 1), .int .i64 (at5 p 2), .int .i64 (at5 p 3), .int .i64 (at5 p 4)] 97))
  have hbA := (Below.refl w.heap.size w).alloc (Nat.le_refl _) (.cells #[.int .i64 (at5 p 0), .int .i64 (at5 p 1), .int .i64 (at5 p 2), .int .i64 (at5 p 3), .int .i64 (at5 p 4)] 97)
  obtain ⟨W, hWe⟩ : ∃ W, w.alloc (.cells #[.int .i64 (at5 p 0), .int .i64 (at5 p 1), .int .i64 (at5 p 2), .int .i64 (at5 p 3), .int .i64 (at5 p 4)] 97) = W := ⟨_, rfl⟩
  have hWs : W.heap.size = w.heap.size + 1 := by rw [← hWe]; simp
  have hWl : w.heap.size + 1 ≤ W.heap.size ∧ W.heap.size ≤ w.heap.size + 1 := by omega
  rw [hWe] at hA hbA
  have h1 := asPF; have h2 := asPP; have h3 := asFF; have h4 := asFP
  clear hat ho hr hp hN hlen hl hWs
  go_enter Try.func204, Try.ntmps204
  go_wp2_with fail
  try rw [hWe]
  clear hWe
  go_wp2
  go_loopw [5, 12] (fun v i wr => ∃ (k : Nat) (X : Bool), k ≤ N ∧ i = .int .i64 k ∧ v = .bool X ∧ Hid (X = mtB true (s.take k) (f.take k) p ∧ mtB false (s.take k) (f.take k) p = false) ∧ Below W.heap.size W wr) (fun _ i _ => N - (intOf i).toNat)
  case atStart => exact ⟨0, false, Nat.zero_le _, rfl, rfl, ⟨mtB_zero.symm, mtB_zero⟩, Below.refl _ _⟩
  case round =>
    obtain ⟨k, X, hk, rfl, rfl, HX, hB3⟩ := hrel
    have hz3 := hB3.size
    by_cases hlt : k < N
    · obtain ⟨x, hx⟩ := at_of_lt (show k < s.length by have := HN.out; omega)
      obtain ⟨y, hy⟩ := at_of_lt (show k < f.length by have := HF.out; omega)
      obtain ⟨g, hg1, hg2, hidx, hc⟩ := HAT.out k _ (resV_at hx hy)
      have HME : Hid (meet5 (at5 p) (at5 x) = mB p x) := by
        have h5 := HR.out x (List.mem_of_getElem? hx)
        have h6 := HP.out
        exact meet5_mB (by omega) (by omega)
      have HS1 : Hid (mtB true (s.take (k + 1)) (f.take (k + 1)) p = (X || (mB p x && y == true)) ∧ mtB false (s.take (k + 1)) (f.take (k + 1)) p = (mB p x && y == false)) := by
        refine ⟨by rw [mtB_step hx hy, HX.out.1], by rw [mtB_step hx hy, HX.out.2, Bool.false_or]⟩
      have HBAD : Hid (y = false → mB p x = true → susF s f p = false) := fun e1 e2 => by
        unfold susF
        subst e1; rw [mtB_iff.2 ⟨k, x, hx, hy, e2⟩]; simp
      have hc2 : wr.cell? ⟨g, k, none⟩ = some (rsW (at5 x) y) := by
        refine ((hb0.trans ((hbA.trans (hB3.mono (by omega))).mono (by omega))).cell (p := ⟨g, k, none⟩) hg2).trans hc
      have hbx := (hB3.block w.heap.size (by omega)).trans hA.out
      clear hx hy hc
      cases y
      · rw [rsW_f] at hc2
        have hbB := (Below.refl wr.heap.size wr).alloc (Nat.le_refl _) (.cells #[.int .i64 (at5 x 0), .int .i64 (at5 x 1), .int .i64 (at5 x 2), .int .i64 (at5 x 3), .int .i64 (at5 x 4)] 191)
        obtain ⟨e0, e1, e2, e3, e4⟩ := cell5s ((hbB.block w.heap.size (by omega)).trans hbx)
        cases hmx : mB p x
        · have HM := Lib.hid hmx
          clear hmx
          go_wp2_with fail
          refine (i_meets (at5 p) (at5 x) _).mono ?_
          rintro e w2 ⟨rfl, hb2⟩
          rw [HME.out, HM.out]
          have hB5 : Below W.heap.size W w2 := hB3.trans ((hbB.trans (hb2.mono (by simp))).mono (by omega))
          have HI : Hid (X = mtB true (s.take (k + 1)) (f.take (k + 1)) p ∧ mtB false (s.take (k + 1)) (f.take (k + 1)) p = false) := by
            have h := HS1.out
            rw [HM.out] at h
            exact ⟨by rw [h.1]; simp, by rw [h.2]; rfl⟩
          clear hbB hb2 hB3 e0 e1 e2 e3 e4 hc2
          go_wp2
          go_roundw
          case rel => exact ⟨k + 1, X, by omega, by go_num, rfl, HI, hB5⟩
          case measure => simp [intOf]; omega
        · have HM := Lib.hid hmx
          clear hmx
          go_wp2_with fail
          refine (i_meets (at5 p) (at5 x) _).mono ?_
          rintro e w2 ⟨rfl, hb2⟩
          rw [HME.out, HM.out]
          have hB5 : Below W.heap.size W w2 := hB3.trans ((hbB.trans (hb2.mono (by simp))).mono (by omega))
          clear hbB hb2 hB3 e0 e1 e2 e3 e4 hc2
          go_wp2
          go_ret
          rw [HBAD.out (by first | rfl | trivial) HM.out]
          exact ⟨rfl, hbA.trans (hB5.mono (by omega))⟩
      · rw [rsW_t] at hc2
        have hbB := (Below.refl wr.heap.size wr).alloc (Nat.le_refl _) (.cells #[.int .i64 (at5 x 0), .int .i64 (at5 x 1), .int .i64 (at5 x 2), .int .i64 (at5 x 3), .int .i64 (at5 x 4)] 192)
        obtain ⟨e0, e1, e2, e3, e4⟩ := cell5s ((hbB.block w.heap.size (by omega)).trans hbx)
        cases X
        · go_wp2_with fail
          refine (i_meets (at5 p) (at5 x) _).mono ?_
          rintro e w2 ⟨rfl, hb2⟩
          rw [HME.out]
          have hB5 : Below W.heap.size W w2 := hB3.trans ((hbB.trans (hb2.mono (by simp))).mono (by omega))
          have HI : Hid (mB p x = mtB true (s.take (k + 1)) (f.take (k + 1)) p ∧ mtB false (s.take (k + 1)) (f.take (k + 1)) p = false) := by
            have h := HS1.out
            exact ⟨by rw [h.1]; simp, by rw [h.2]; simp⟩
          obtain ⟨Z, hZ⟩ : ∃ Z, mB p x = Z := ⟨_, rfl⟩
          rw [hZ] at HI ⊢
          clear hbB hb2 hB3 e0 e1 e2 e3 e4 hc2 hZ HS1 HME HBAD
          go_wp2
          go_roundw
          case rel => exact ⟨k + 1, Z, by omega, by go_num, rfl, HI, hB5⟩
          case measure => simp [intOf]; omega
        · have hB5 : Below W.heap.size W (wr.alloc (.cells #[.int .i64 (at5 x 0), .int .i64 (at5 x 1), .int .i64 (at5 x 2), .int .i64 (at5 x 3), .int .i64 (at5 x 4)] 192)) := hB3.trans (hbB.mono (by omega))
          have HI : Hid (true = mtB true (s.take (k + 1)) (f.take (k + 1)) p ∧ mtB false (s.take (k + 1)) (f.take (k + 1)) p = false) := by
            have h := HS1.out
            exact ⟨by rw [h.1]; simp, by rw [h.2]; simp⟩
          clear hbB hB3 HS1 HME HBAD
          go_wp2
          go_roundw
          case rel => exact ⟨k + 1, true, by omega, by go_num, rfl, HI, hB5⟩
          case measure => simp [intOf]; omega
    · have HE : Hid (X = susF s f p) := by
        have h := HX.out
        have h5 := HN.out
        have h6 := HF.out
        rw [mtB_end (by omega) (by omega), mtB_end (by omega) (by omega)] at h
        show _ = _
        unfold susF
        rw [h.2, ← h.1]; simp
      go_wp2
      go_ret
      rw [HE.out]
      exact ⟨rfl, hbA.trans (hB3.mono (by omega))⟩

set_option maxHeartbeats 1000000 in
theorem i_susC {s : List (List Int)} {f : List Bool} {p : List Int} {av : Option Addr} {cv B n bx : Nat} {w0 w : World} (ho : OwnRs w0 B (.slice av s.length cv) s.length (resV s f)) (hb0 : Below w0.heap.size w0 w) (hbx : w.heap[bx]? = some (.cells #[.slice av s.length cv] 154 (0, 0))) (hlen : f.length = s.length) (hl : s.length ≤ 1048576) (hr : ∀ r ∈ s, r.length = n) (hp : p.length = n) (hn : n ≤ 5) :
    Calls Try.prog 203 #[.agg #[.int .i64 (at5 p 0), .int .i64 (at5 p 1), .int .i64 (at5 p 2), .int .i64 (at5 p 3), .int .i64 (at5 p 4)], .pointer (some ⟨bx, 0, none⟩)] w (NewV w (.bool (susF s f p))) := by
  have hblt : bx < w.heap.size := by
    cases hx : w.heap[bx]? with
    | none => rw [hx] at hbx; cases hbx
    | some o => exact (Array.getElem?_eq_some_iff.1 hx).1
  have hbA := (Below.refl w.heap.size w).alloc (Nat.le_refl _) (.cells #[.int .i64 (at5 p 0), .int .i64 (at5 p 1), .int .i64 (at5 p 2), .int .i64 (at5 p 3), .int .i64 (at5 p 4)] 97)
  have hc := cell_of_row _ _ 0 _ _ _ ((hbA.block bx hblt).trans hbx)
  have HC := Lib.hid (i_isSuspect (w := w.alloc (.cells #[.int .i64 (at5 p 0), .int .i64 (at5 p 1), .int .i64 (at5 p 2), .int .i64 (at5 p 3), .int .i64 (at5 p 4)] 97)) ho (hb0.trans (hbA.mono hb0.size)) hlen hl hr hp hn)
  have hc1 : (w.alloc (.cells #[.int .i64 (at5 p 0), .int .i64 (at5 p 1), .int .i64 (at5 p 2), .int .i64 (at5 p 3), .int .i64 (at5 p 4)] 97)).cell? ⟨bx, 0, none⟩ = some (.slice av s.length cv) := hc
  clear hc ho hb0 hbx hlen hp hr hblt
  go_enter Try.func203, Try.ntmps203
  go_wp2_with fail
  refine HC.out.mono ?_
  rintro e w2 ⟨rfl, hb2⟩
  go_wp2
  go_ret
  exact ⟨rfl, hbA.trans (hb2.mono (by simp))⟩

set_option maxRecDepth 100000 in
set_option maxHeartbeats 2000000 in
theorem i_SuspectsOf {m : List Int} {s : List (List Int)} {f : List Bool} {a a1 a2 : Option Addr} {c c1 c2 lo hi lo1 hi1 lo2 hi2 : Nat} {w : World} {t : Int} (hm : RI w lo hi a m) (hlm : m.length ≤ 9223372036854775807) (hs : RII w lo1 hi1 a1 s) (hls : s.length ≤ 9223372036854775807) (hg : ∀ r ∈ s, r.length ≤ 9223372036854775807) (hf : RBo w lo2 hi2 a2 f) (hlf : f.length ≤ 9223372036854775807) (_ht0 : -9223372036854775808 ≤ t) (_ht1 : t ≤ 9223372036854775807) (hB : hi ≤ w.heap.size) (hB1 : hi1 ≤ w.heap.size) (hB2 : hi2 ≤ w.heap.size) :
    Calls Try.prog 95 #[.slice a m.length c, .slice a1 s.length c1, .slice a2 f.length c2, .int .i64 t] w (NewII w (suL m s f t)) := by
  have HG := Lib.hid hg; clear hg
  cases hj : jdG m s f t
  · have HE : Hid (suL m s f t = []) := su_no hj
    have HJ := Lib.hid hj; clear hj
    go_enter Try.func95, Try.ntmps95
    go_wp2_with fail
    refine (i_canJudge hm hlm hs hls HG.out hlf).mono ?_
    rintro e w1 ⟨rfl, hd⟩
    rw [HJ.out]
    go_wp2
    go_ret
    exact NewII.none HE.out (Dr.below hd _)
  have HE : Hid (suL m s f t = susP m s f t) := su_yes hj
  have HJ := Lib.hid hj
  have hjm := jdG_m hj
  have HLF := Lib.hid hjm.2
  have hp := okC_parts hjm.1
  have HR := Lib.hid hp.2.2.2
  have HOK := Lib.hid hp.1
  have hm5 := okM_len hp.1
  have ht := hp.2.1
  have hsl := hp.2.2.1
  have HPL := Lib.hid (patS_len (head := []) HOK.out t)
  have HRW := Lib.hid (suL_row (m := m) (s := s) (f := f) (t := t))
  have HLN := Lib.hid (suL_len (m := m) (s := s) (f := f) (t := t))
  clear hj hjm hp
  go_enter Try.func95, Try.ntmps95
  go_wp2_with fail
  refine (i_canJudge hm hlm hs hls HG.out hlf).mono ?_
  rintro e w1 ⟨rfl, hd⟩
  rw [HJ.out]
  have hd : Dr w w1 := hd
  have hz1 := Dr.le hd
  have hbW := Dr.below hd w.heap.size
  go_wp2_with fail
  refine (i_resultsOf (hs.dr hd) (by omega) (hf.below hbW hB2) (by omega) HLF.out (by omega) (fun r hr => by have := HR.out r hr; omega)).mono ?_
  rintro e w2 ⟨v2, rfl, ho2, hb2⟩
  obtain ⟨av, cv, hv2, _⟩ := ho2.at
  subst hv2
  have hz2 := hb2.size
  have hbox := heap_alloc_new w2 (.cells #[.slice av s.length cv] 154)
  have hbA := (Below.refl w2.heap.size w2).alloc (Nat.le_refl _) (.cells #[.slice av s.length cv] 154)
  have hb02 : Below w.heap.size w (w2.alloc (.cells #[.slice av s.length cv] 154)) := hbW.trans ((hb2.mono (by omega)).trans (hbA.mono (by omega)))
  have hm3 := hm.below hb02 hB
  have HO2 := Lib.hid ho2
  have HBX := Lib.hid hbox
  clear ho2 hbox
  go_wp2_with fail
  refine (i_patternsOf HOK.out hm3 (by simp; omega) ht.1 ht.2).mono ?_
  rintro e w3 ⟨v3, rfl, ho3, hb3⟩
  have hz3 := hb3.size
  simp only [World.size_alloc] at hz3
  have hb23 : Below w2.heap.size w2 w3 := hbA.trans (hb3.mono (by simp))
  obtain ⟨av3, cv3, hv3, _⟩ := ho3.at
  subst hv3
  have HKC : Hid (∀ l ∈ patS m [] t, ∀ w', Below w3.heap.size w3 w' → Calls Try.prog 203 #[.agg #[.int .i64 (at5 l 0), .int .i64 (at5 l 1), .int .i64 (at5 l 2), .int .i64 (at5 l 3), .int .i64 (at5 l 4)], .pointer (some ⟨w2.heap.size, 0, none⟩)] w' (NewV w' (.bool (susF s f l)))) := fun l hl w' hb' => by
    refine i_susC HO2.out (hb23.trans (hb'.mono (by omega))) ?_ HLF.out (by omega) HR.out (patS_row l hl) hm5.2
    exact ((hb'.block w2.heap.size (by omega)).trans (hb3.block w2.heap.size (by simp))).trans HBX.out
  clear hm3
  go_wp2_with fail
  refine (i_keptS _ (susF s f) ho3 (Below.refl _ _) (by have := HPL.out; omega) HKC.out).mono ?_
  rintro e w4 ⟨v4, rfl, ho4, hb4⟩
  have hz4 := hb4.size
  obtain ⟨av4, cv4, hv4, _⟩ := ho4.at
  subst hv4
  have ho5 : OwnP w4 w3.heap.size _ (susP m s f t) := ho4
  go_wp2_with fail
  refine (i_listsOf (n := m.length) ho5 (by omega) (by omega) (by have := HLN.out; rw [HE.out] at this; omega) (fun l hl => (HRW.out l (by rw [HE.out]; exact hl)).1)).mono ?_
  rintro e w5 ⟨a5, c5, rfl, h5, hb5⟩
  go_wp2
  go_ret
  rw [HE.out]
  exact ⟨a5, c5, rfl, h5.wide (by omega) (Nat.le_refl _), ((hb02.trans (hb3.mono (by simp; omega))).trans (hb4.mono (by omega))).trans (hb5.mono (by omega))⟩

set_option maxRecDepth 100000 in
set_option maxHeartbeats 2000000 in
theorem i_CulpritsOf {m : List Int} {s : List (List Int)} {f : List Bool} {a a1 a2 : Option Addr} {c c1 c2 lo hi lo1 hi1 lo2 hi2 : Nat} {w : World} {t : Int} (hm : RI w lo hi a m) (hlm : m.length ≤ 9223372036854775807) (hs : RII w lo1 hi1 a1 s) (hls : s.length ≤ 9223372036854775807) (hg : ∀ r ∈ s, r.length ≤ 9223372036854775807) (hf : RBo w lo2 hi2 a2 f) (hlf : f.length ≤ 9223372036854775807) (_ht0 : -9223372036854775808 ≤ t) (_ht1 : t ≤ 9223372036854775807) (hB : hi ≤ w.heap.size) (hB1 : hi1 ≤ w.heap.size) (hB2 : hi2 ≤ w.heap.size) :
    Calls Try.prog 101 #[.slice a m.length c, .slice a1 s.length c1, .slice a2 f.length c2, .int .i64 t] w (NewII w (cuL m s f t)) := by
  have HG := Lib.hid hg; clear hg
  cases hj : jdG m s f t
  · have HE : Hid (cuL m s f t = []) := cu_no hj
    have HJ := Lib.hid hj; clear hj
    go_enter Try.func101, Try.ntmps101
    go_wp2_with fail
    refine (i_canJudge hm hlm hs hls HG.out hlf).mono ?_
    rintro e w1 ⟨rfl, hd⟩
    rw [HJ.out]
    go_wp2
    go_ret
    exact NewII.none HE.out (Dr.below hd _)
  have HE : Hid (cuL m s f t = culP m s f t) := cu_yes hj
  have HJ := Lib.hid hj
  have hjm := jdG_m hj
  have HLF := Lib.hid hjm.2
  have hp := okC_parts hjm.1
  have HR := Lib.hid hp.2.2.2
  have HOK := Lib.hid hp.1
  have hm5 := okM_len hp.1
  have ht := hp.2.1
  have hsl := hp.2.2.1
  have HPL := Lib.hid (patS_len (head := []) HOK.out t)
  have HRW := Lib.hid (cuL_row (m := m) (s := s) (f := f) (t := t))
  have HLN := Lib.hid (cuL_len (m := m) (s := s) (f := f) (t := t))
  clear hj hjm hp
  go_enter Try.func101, Try.ntmps101
  go_wp2_with fail
  refine (i_canJudge hm hlm hs hls HG.out hlf).mono ?_
  rintro e w1 ⟨rfl, hd⟩
  rw [HJ.out]
  have hd : Dr w w1 := hd
  have hz1 := Dr.le hd
  have hbW := Dr.below hd w.heap.size
  go_wp2_with fail
  refine (i_patternsOf HOK.out (hm.dr hd) (by omega) ht.1 ht.2).mono ?_
  rintro e w2 ⟨v2, rfl, ho2, hb2⟩
  obtain ⟨av2, cv2, hv2, _⟩ := ho2.at
  subst hv2
  have hz2 := hb2.size
  have hb02 : Below w.heap.size w w2 := hbW.trans (hb2.mono (by omega))
  go_wp2_with fail
  refine (i_resultsOf (hs.below hb02 hB1) (by omega) (hf.below hb02 hB2) (by omega) HLF.out (by omega) (fun r hr => by have := HR.out r hr; omega)).mono ?_
  rintro e w3 ⟨v3, rfl, ho3, hb3⟩
  obtain ⟨av, cv, hv3, hat⟩ := ho3.at
  subst hv3
  have hz3 := hb3.size
  have ho23 : OwnP w3 w1.heap.size (.slice av2 (patS m [] t).length cv2) (patS m [] t) := ho2.kept fun j hj _ => hb3.block j hj
  have HAT := Lib.hid hat
  have HFT : Hid ((patS m [] t).filter (culF (s.take 0) (f.take 0)) = patS m [] t) := by
    show _ = _
    rw [List.filter_eq_self]
    intro l _; exact culF_zero
  obtain ⟨ps, hps⟩ : ∃ ps, patS m [] t = ps := ⟨_, rfl⟩
  have HPS := Lib.hid hps
  have HPR : Hid (∀ l ∈ ps, l.length = m.length) := fun l hl => patS_row l (by rw [hps]; exact hl)
  rw [hps] at ho23 HFT HPL
  obtain ⟨N, hN⟩ : ∃ N, s.length = N := ⟨_, rfl⟩
  have HN := Lib.hid hN
  have HF : Hid (f.length = N) := by show _ = _; rw [HLF.out, hN]
  have hNl : N ≤ 1048576 := by omega
  rw [hN] at HAT ⊢
  have hbW3 : Below w.heap.size w w3 := hb02.trans (hb3.mono (by omega))
  clear hN hps hat ho3 hm hs hf hb2 hb3 hb02 hbW ho2
  go_wp2
  go_loopw [9, 25] (fun v i wr => ∃ (k B : Nat) (u : Value), k ≤ N ∧ i = .int .i64 k ∧ u = v ∧ OwnP wr B u (ps.filter (culF (s.take k) (f.take k))) ∧ Below w3.heap.size w3 wr) (fun _ i _ => N - (intOf i).toNat)
  case atStart => exact ⟨0, w1.heap.size, _, Nat.zero_le _, rfl, rfl, by rw [HFT.out, HPS.out]; exact ho23, Below.refl _ _⟩
  case round =>
    clear ho23
    obtain ⟨k, B, u, hk, rfl, rfl, hown, hB3⟩ := hrel
    have hz4 := hB3.size
    by_cases hlt : k < N
    · obtain ⟨x, hx⟩ := at_of_lt (show k < s.length by have := HN.out; omega)
      obtain ⟨y, hy⟩ := at_of_lt (show k < f.length by have := HF.out; omega)
      obtain ⟨g, hg1, hg2, hidx, hc⟩ := HAT.out k _ (resV_at hx hy)
      have hc2 : wr.cell? ⟨g, k, none⟩ = some (rsW (at5 x) y) := (hB3.cell (p := ⟨g, k, none⟩) hg2).trans hc
      have hxl := HR.out x (List.mem_of_getElem? hx)
      have HME : Hid (∀ l ∈ ps, meet5 (at5 l) (at5 x) = mB l x) := fun l hl => by
        have := HPR.out l hl
        exact meet5_mB (by omega) (by omega)
      have HST : Hid ((ps.filter (culF (s.take k) (f.take k))).filter (fun l => mB l x == y) = ps.filter (culF (s.take (k + 1)) (f.take (k + 1)))) := by
        show _ = _
        rw [List.filter_filter]
        refine List.filter_congr fun l _ => ?_
        rw [culF_step hx hy, Bool.and_comm]
      have hfl : (ps.filter (culF (s.take k) (f.take k))).length ≤ 1048576 := Nat.le_trans (List.length_filter_le _ _) (by have := HPL.out; omega)
      have HSUB : Hid (∀ l ∈ ps.filter (culF (s.take k) (f.take k)), l ∈ ps) := fun l hl => (List.mem_filter.1 hl).1
      clear hx hc hxl
      obtain ⟨qs, hqs⟩ : ∃ qs, ps.filter (culF (s.take k) (f.take k)) = qs := ⟨_, rfl⟩
      rw [hqs] at hown HST hfl HSUB
      clear hqs
      cases y
      · rw [rsW_f] at hc2
        clear hy
        go_wp2_with fail
        refine (i_keptA (at5 x) (fun l => mB l x == false) hown (Below.refl _ _) hfl (fun l hl w' _ => by
          have h := i_agreesP (at5 l) (at5 x) w'
          rw [HME.out l (HSUB.out l hl)] at h
          have e : (!mB l x) = (mB l x == false) := by cases mB l x <;> rfl
          rw [e] at h; exact h)).mono ?_
        rintro e w4 ⟨v4, rfl, ho4, hb4⟩
        rw [HST.out] at ho4
        have hB5 : Below w3.heap.size w3 w4 := hB3.trans (hb4.mono hz4)
        clear hb4 hB3 hown
        go_wp2
        go_roundw
        case rel => exact ⟨k + 1, _, _, by omega, by go_num, rfl, ho4, hB5⟩
        case measure => simp [intOf]; omega
      · rw [rsW_t] at hc2
        clear hy
        go_wp2_with fail
        refine (i_keptF (at5 x) (fun l => mB l x == true) hown (Below.refl _ _) hfl (fun l hl w' _ => by
          have h := i_agreesF (at5 l) (at5 x) w'
          rw [HME.out l (HSUB.out l hl)] at h
          have e : mB l x = (mB l x == true) := by cases mB l x <;> rfl
          rw [e] at h; exact h)).mono ?_
        rintro e w4 ⟨v4, rfl, ho4, hb4⟩
        rw [HST.out] at ho4
        have hB5 : Below w3.heap.size w3 w4 := hB3.trans (hb4.mono hz4)
        clear hb4 hB3 hown
        go_wp2
        go_roundw
        case rel => exact ⟨k + 1, _, _, by omega, by go_num, rfl, ho4, hB5⟩
        case measure => simp [intOf]; omega
    · have HTK : Hid (ps.filter (culF (s.take k) (f.take k)) = culP m s f t) := by
        show _ = _
        unfold culP
        rw [HPS.out, List.take_of_length_le (by have := HN.out; omega), List.take_of_length_le (by have := HF.out; omega)]
      rw [HTK.out] at hown
      obtain ⟨av4, cv4, hv4, _⟩ := hown.at
      subst hv4
      go_wp2_with fail
      refine (i_listsOf (n := m.length) hown (by omega) (by omega) (by have := HLN.out; rw [HE.out] at this; omega) (fun l hl => (HRW.out l (by rw [HE.out]; exact hl)).1)).mono ?_
      rintro e w5 ⟨a5, c5, rfl, h5, hb5⟩
      have hz0 := hbW3.size
      go_wp2
      go_ret
      rw [HE.out]
      exact ⟨a5, c5, rfl, h5.wide (by omega) (Nat.le_refl _), (hbW3.trans (hB3.mono hz0)).trans (hb5.mono (by omega))⟩

end Go.Proofs.Ytehoagbpgahopaa
