/- Walks: HuntFault, by the program: a channel of one place, a select with a default. -/
import Derived.Test.YtehoagbpgahopaaJo
import Derived.Test.YtehoagbpgahopaaJd
import Derived.Test.YtehoagbpgahopaaTg
namespace Go.Proofs.Ytehoagbpgahopaa
open Go.RowKit Go.Conc

theorem mkCh (w : World) : (Instr.makeChan 167 (.int .i64 1)).run Try.prog w = .ok (.chan (some w.heap.size)) (w.alloc (.chan 1 #[] false 0 0 false)) := by
  have hb : (Try.prog.info? 97).map (·.bytes) = some 40 := by kernel_rfl
  obtain ⟨i, hi, hb⟩ := Option.map_eq_some_iff.1 hb
  have hu : Try.prog.underlying 167 = some (.chan .both 97) := by kernel_rfl
  simpa using run_makeChan (P := Try.prog) (w := w) hu hi .i64 1 (by omega) (by rw [hb]; omega)

/-- what sendSplit leaves: the channel's one place holds the test that parts the patterns, if there is one -/
def SpD (m : List Int) (ps : List (List Int)) (c0 r : Nat) (w : World) (e : Ending) (w' : World) : Prop :=
  e = .returned (.tuple #[]) ∧ (∃ s', w'.heap[c0]? = some (.chan 1 (bif spB m ps then #[.agg #[.int .i64 (at5 (bsL m ps) 0), .int .i64 (at5 (bsL m ps) 1), .int .i64 (at5 (bsL m ps) 2), .int .i64 (at5 (bsL m ps) 3), .int .i64 (at5 (bsL m ps) 4)]] else #[]) false s' r false)) ∧ Upd c0 (c0 + 1) w w'

set_option maxRecDepth 100000 in
set_option maxHeartbeats 4000000 in
theorem i_sendSplit {m : List Int} {ps : List (List Int)} {a : Option Addr} {c lo hi c0 s r : Nat} {v : Value} {Bp : Nat} {wp w : World} (hok : okM m = true) (hm : RI w lo hi a m) (hB : hi ≤ w.heap.size)
    (ho : OwnP wp Bp v ps) (hbp : Below wp.heap.size wp w) (hl : ps.length ≤ 1048576) (hr : ∀ p ∈ ps, p.length = m.length) (hc : w.heap[c0]? = some (.chan 1 #[] false s r false)) :
    Calls Try.prog 216 #[.chan (some c0), .slice a m.length c, v] w (SpD m ps c0 r w) := by
  have HSP := Lib.hid (i_splitOf (c := c) hok hm hB ho hbp hl hr)
  have HCH := Lib.hid hc
  have hc0 : c0 < w.heap.size := (Array.getElem?_eq_some_iff.1 hc).1
  clear hm ho hbp hc
  refine calls_of_wpN Try.func216 rfl ?_
  simp only [Try.ntmps216, List.size_toArray, List.length_cons, List.length_nil, Nat.reduceAdd, Nat.reduceSub, Array.replicate_succ, Array.replicate_zero, List.push_toArray, List.append_toArray, List.nil_append, List.cons_append]
  refine wpN_seq (wpN_of ?_)
  go_wp2_with fail
  refine HSP.out.mono ?_
  rintro e w2 ⟨T, rfl, hT, hb2⟩
  have HT := Lib.hid hT
  have hz2 := hb2.size
  cases hsp : spB m ps
  · have HS := Lib.hid hsp
    clear hT hsp
    go_wp2
    refine wpN_seq (wpN_of ?_)
    go_wp2
    refine wpN_cond (t := false) rfl (wpN_of ?_)
    go_wp2
    go_end0
    have hbA : Below w.heap.size w (w2.alloc (.cells #[.int .i64 (T 0), .int .i64 (T 1), .int .i64 (T 2), .int .i64 (T 3), .int .i64 (T 4)] 97)) := hb2.alloc hz2 _
    refine ⟨rfl, ⟨s, ?_⟩, ⟨hbA.os, hbA.tape, hbA.output, hbA.size, fun k hk _ => hbA.block k hk⟩⟩
    rw [HS.out]
    exact (hbA.block c0 hc0).trans HCH.out
  · have HS := Lib.hid hsp
    have HTE : Hid (T = at5 (bsL m ps)) := funext (hT hsp)
    clear hT hsp
    go_wp2
    refine wpN_seq (wpN_of ?_)
    go_wp2
    refine wpN_cond (t := true) rfl (wpN_region ?_)
    refine wpM_op (by rfl) (by rfl) (fun K hK => ?_)
    go_simp
    refine hK _ _ ?_
    clear hK K
    refine wpM_op (by rfl) (by rfl) (fun K hK => ?_)
    go_simp
    refine hK _ _ ?_
    clear hK K
    have hbA : Below w.heap.size w (w2.alloc (.cells #[.int .i64 (T 0), .int .i64 (T 1), .int .i64 (T 2), .int .i64 (T 3), .int .i64 (T 4)] 97)) := hb2.alloc hz2 _
    refine wpM_send (c := c0) (cap := 1) (s := s) (r := r) (buf := #[]) (v := .agg #[.int .i64 (T 0), .int .i64 (T 1), .int .i64 (T 2), .int .i64 (T 3), .int .i64 (T 4)]) (z := .tuple #[]) (tm := false) (by rfl) (by rfl) (by simp [go_sem, execOp, scase, Act.eval, Act.put]) ((hbA.block c0 hc0).trans HCH.out) (by simp) (wpM_nil ?_)
    go_end0
    refine ⟨rfl, ⟨s + 1, ?_⟩, ⟨hbA.os, hbA.tape, hbA.output, by rw [size_setChan]; exact hbA.size, fun k hk h => ?_⟩⟩
    · rw [heap_setChan _ _ _ _ _ _ _ _ (by have := hbA.size; omega), HS.out, HTE.out]
      rfl
    · simp only [World.setChan]
      rw [Array.getElem?_setIfInBounds_ne (by omega)]
      exact hbA.block k hk

/-- lists of the call's own, and a number -/
def NewIIz (w : World) (mm : List (List Int)) (z : Int) (e : Ending) (w' : World) : Prop :=
  ∃ a c, e = .returned (.tuple #[.slice a mm.length c, .int .i64 z]) ∧ OIIc w' w.heap.size w'.heap.size a c mm ∧ Below w.heap.size w w'
theorem NewIIz.none {w w' : World} {l : List (List Int)} {z : Int} (h : l = []) (hz : z = -1) (hb : Below w.heap.size w w') : NewIIz w l z (.returned (.tuple #[.slice none 0 0, .int .i64 (-1)])) w' := by
  subst h hz
  exact ⟨_, _, rfl, OIIc.nil _ _ _ _ _, hb⟩
theorem hu_no {m f : List Int} (h : huB m f = false) : huL m f = [] ∧ huN m f = -1 := by unfold huL huN; rw [h]; exact ⟨rfl, rfl⟩
theorem hu_yes {m f : List Int} (h : huB m f = true) : huL m f = (huR m f).1 ∧ huN m f = ((huR m f).2 : Int) := by unfold huL huN; rw [h]; exact ⟨rfl, rfl⟩

/-- what holds ahead of each round of the hunt -/
structure HuS (m f : List Int) (c0 : Nat) (w : World) (av : Option Addr) (cv : Nat) (left : List (List Int)) (n : Nat) (wr : World) : Prop where
  far : w.heap.size ≤ c0
  own : ∃ B, OwnP wr B (.slice av left.length cv) left
  off : ∀ g, (Value.slice av left.length cv).ownBlock = some g → g ≠ c0
  ch : ∃ s r, wr.heap[c0]? = some (.chan 1 (bif spB m left then #[.agg #[.int .i64 (at5 (bsL m left) 0), .int .i64 (at5 (bsL m left) 1), .int .i64 (at5 (bsL m left) 2), .int .i64 (at5 (bsL m left) 3), .int .i64 (at5 (bsL m left) 4)]] else #[]) false s r false)
  bel : Below w.heap.size w wr
  fuel : ∃ k, left.length ≤ k ∧ huG m f k left n = huR m f
  row : ∀ p ∈ left, p.length = m.length
  len : left.length ≤ 1024
  small : n + left.length ≤ 1024
def HuI (m f : List Int) (a a1 : Option Addr) (c c1 c0 : Nat) (w : World) (A : Act) (wr : World) : Prop :=
  ∃ (left : List (List Int)) (av : Option Addr) (cv n : Nat), A = { tmps := #[.slice a m.length c, .slice a1 f.length c1, A.tmps.getD 2 undef, A.tmps.getD 3 undef, A.tmps.getD 4 undef, A.tmps.getD 5 undef, .slice av left.length cv, .chan (some c0), .int .i64 (n : Nat), A.tmps.getD 9 undef, A.tmps.getD 10 undef, A.tmps.getD 11 undef, A.tmps.getD 12 undef, A.tmps.getD 13 undef, A.tmps.getD 14 undef, A.tmps.getD 15 undef, A.tmps.getD 16 undef, A.tmps.getD 17 undef, A.tmps.getD 18 undef, A.tmps.getD 19 undef, A.tmps.getD 20 undef, A.tmps.getD 21 undef, A.tmps.getD 22 undef, A.tmps.getD 23 undef, A.tmps.getD 24 undef, A.tmps.getD 25 undef, A.tmps.getD 26 undef, A.tmps.getD 27 undef, A.tmps.getD 28 undef, A.tmps.getD 29 undef, A.tmps.getD 30 undef, A.tmps.getD 31 undef, A.tmps.getD 32 undef, A.tmps.getD 33 undef, A.tmps.getD 34 undef, A.tmps.getD 35 undef, A.tmps.getD 36 undef, A.tmps.getD 37 undef, A.tmps.getD 38 undef, A.tmps.getD 39 undef, A.tmps.getD 40 undef, A.tmps.getD 41 undef, A.tmps.getD 42 undef, A.tmps.getD 43 undef, A.tmps.getD 44 undef, A.tmps.getD 45 undef, A.tmps.getD 46 undef, A.tmps.getD 47 undef, A.tmps.getD 48 undef, A.tmps.getD 49 undef, A.tmps.getD 50 undef, A.tmps.getD 51 undef], defers := [] } ∧ HuS m f c0 w av cv left n wr

set_option maxRecDepth 100000 in
set_option maxHeartbeats 8000000 in
theorem i_HuntFault {m f : List Int} {a a1 : Option Addr} {c c1 lo hi lo1 hi1 : Nat} {w : World} (hm : RI w lo hi a m) (hlm : m.length ≤ 9223372036854775807) (hf : RI w lo1 hi1 a1 f) (hlf : f.length ≤ 9223372036854775807) (hB : hi ≤ w.heap.size) (hB1 : hi1 ≤ w.heap.size) :
    Calls Try.prog 115 #[.slice a m.length c, .slice a1 f.length c1] w (NewIIz w (huL m f) (huN m f)) := by
  cases hb : huB m f
  · have HE := Lib.hid (hu_no hb)
    have HVP : Hid ((okM m && okP m f) = false) := hb
    clear hb
    go_enter Try.func115, Try.ntmps115
    go_wp2_with fail
    refine (i_ValidPattern hm hlm hf hlf).mono ?_
    rintro e w1 ⟨rfl, d1⟩
    rw [HVP.out]
    go_wp2
    go_ret2
    exact NewIIz.none HE.out.1 HE.out.2 (Dr.below d1 _)
  have HE := Lib.hid (hu_yes hb)
  have HVP : Hid ((okM m && okP m f) = true) := hb
  have hb2 := hb
  simp only [huB, Bool.and_eq_true] at hb2
  have HOK := Lib.hid hb2.1
  have hm5 := okM_len hb2.1
  have hfl : f.length = m.length := okW_len hb2.2
  have HFL := Lib.hid hfl
  have hsl : strN f ≤ m.length := by rw [← hfl]; exact List.countP_le_length
  have HSV : Hid (strV m f = (strN f : Int)) := by show _ = _; unfold strV; rw [hb2.1, hb2.2]; rfl
  have HPL := Lib.hid (patS_len (head := []) HOK.out (strN f))
  have HPR := Lib.hid (patS_row (m := m) (t := strN f))
  have hfl5 : f.length ≤ 5 := by omega
  have hmc := mkCh
  clear hb hb2 hfl
  refine calls_of_wpN Try.func115 rfl ?_
  simp only [Try.ntmps115, List.size_toArray, List.length_cons, List.length_nil, Nat.reduceAdd, Nat.reduceSub, Array.replicate_succ, Array.replicate_zero, List.push_toArray, List.append_toArray, List.nil_append, List.cons_append]
  refine wpN_seq (wpN_of ?_)
  go_wp2
  refine wpN_seq (wpN_of ?_)
  go_wp2_with fail
  refine (i_ValidPattern hm hlm hf hlf).mono ?_
  rintro e w1 ⟨rfl, d1⟩
  rw [HVP.out]
  go_wp2
  have D1 : Dr w w1 := d1
  refine wpN_seq (wpN_of ?_)
  go_wp2_with fail
  refine (i_StrengthOf (hm.dr D1) hlm (hf.dr D1) hlf).mono ?_
  rintro e w2 ⟨rfl, d2⟩
  rw [HSV.out]
  have D2 : Dr w w2 := Dr.trans D1 d2
  have z2 := Dr.le D2
  go_wp2_with fail
  refine (i_patternsOf HOK.out (hm.dr D2) (by omega) (by omega) (by omega)).mono ?_
  rintro e w3 ⟨v3, rfl, ho3, hb3⟩
  obtain ⟨av, cv, hv3, _⟩ := ho3.at
  subst hv3
  have hz3 := hb3.size
  have hbW3 : Below w.heap.size w w3 := (Dr.below D2 _).trans (hb3.mono (by omega))
  have hlt3 := ho3.lt
  clear d1 d2 D1 D2 hb3
  go_wp2
  refine wpN_seq (wpN_of ?_)
  go_wp2
  have hch := heap_alloc_new w3 (.chan 1 #[] false 0 0 false)
  have hbC := (Below.refl w3.heap.size w3).alloc (Nat.le_refl _) (.chan 1 #[] false 0 0 false)
  have hbW4 := hbW3.trans (hbC.mono (by omega))
  have ho4 : OwnP (w3.alloc (.chan 1 #[] false 0 0 false)) w2.heap.size (.slice av (patS m [] (strN f)).length cv) (patS m [] (strN f)) := ho3.kept fun j hj _ => hbC.block j hj
  have HO4 := Lib.hid ho4
  have HCH := Lib.hid hch
  have hm4 := hm.below hbW4 hB
  clear ho3 ho4 hch
  refine wpN_seq (wpN_of ?_)
  go_wp2_with fail
  refine (i_sendSplit (s := 0) (r := 0) HOK.out hm4 (by simp; omega) HO4.out (Below.refl _ _) (by have := HPL.out; omega) HPR.out HCH.out).mono ?_
  rintro e w5 ⟨rfl, hch5, hU⟩
  have hz5 := hU.size
  simp only [World.size_alloc] at hz5
  go_wp2
  refine wpN_seq (wpN_of ?_)
  go_wp2
  have hbW5 : Below w.heap.size w w5 := ⟨hU.os.trans hbW4.os, hU.tape.trans hbW4.tape, hU.output.trans hbW4.output, Nat.le_trans hbW4.size hU.size, fun k hk => (hU.block k (by simp; omega) (by omega)).trans (hbW4.block k hk)⟩
  have HST : Hid (HuS m f w3.heap.size w av cv (patS m [] (strN f)) 0 w5) := by
    obtain ⟨s5, hc5⟩ := hch5
    have h1 := HPL.out
    refine ⟨hbW3.size, ⟨w2.heap.size, HO4.out.kept fun j hj hg => hU.block j hj ?_⟩, fun g hg => by have := hlt3 g hg; omega, ⟨s5, 0, hc5⟩, hbW5, ⟨1024, h1, rfl⟩, HPR.out, h1, by omega⟩
    have := hlt3 j hg
    omega
  refine wpN_block (wpN_loop (HuI m f a a1 c c1 w3.heap.size w) (fun A _ => lenV (A.tmps.getD 6 undef)) ?_ ?_)
  · exact ⟨patS m [] (strN f), av, cv, 0, rfl, HST.out⟩
  clear HST hbW5 hU hch5 HO4 HCH hm4 hbW4 hbC hmc
  generalize w3.heap.size = c0
  intro A wr hI
  obtain ⟨left, av, cv, n, hA, hS⟩ := hI
  obtain ⟨u2, hu2⟩ : ∃ u, A.tmps.getD 2 undef = u := ⟨_, rfl⟩
  obtain ⟨u3, hu3⟩ : ∃ u, A.tmps.getD 3 undef = u := ⟨_, rfl⟩
  obtain ⟨u4, hu4⟩ : ∃ u, A.tmps.getD 4 undef = u := ⟨_, rfl⟩
  obtain ⟨u5, hu5⟩ : ∃ u, A.tmps.getD 5 undef = u := ⟨_, rfl⟩
  obtain ⟨u9, hu9⟩ : ∃ u, A.tmps.getD 9 undef = u := ⟨_, rfl⟩
  obtain ⟨u10, hu10⟩ : ∃ u, A.tmps.getD 10 undef = u := ⟨_, rfl⟩
  obtain ⟨u11, hu11⟩ : ∃ u, A.tmps.getD 11 undef = u := ⟨_, rfl⟩
  obtain ⟨u12, hu12⟩ : ∃ u, A.tmps.getD 12 undef = u := ⟨_, rfl⟩
  obtain ⟨u13, hu13⟩ : ∃ u, A.tmps.getD 13 undef = u := ⟨_, rfl⟩
  obtain ⟨u14, hu14⟩ : ∃ u, A.tmps.getD 14 undef = u := ⟨_, rfl⟩
  obtain ⟨u15, hu15⟩ : ∃ u, A.tmps.getD 15 undef = u := ⟨_, rfl⟩
  obtain ⟨u16, hu16⟩ : ∃ u, A.tmps.getD 16 undef = u := ⟨_, rfl⟩
  obtain ⟨u17, hu17⟩ : ∃ u, A.tmps.getD 17 undef = u := ⟨_, rfl⟩
  obtain ⟨u18, hu18⟩ : ∃ u, A.tmps.getD 18 undef = u := ⟨_, rfl⟩
  obtain ⟨u19, hu19⟩ : ∃ u, A.tmps.getD 19 undef = u := ⟨_, rfl⟩
  obtain ⟨u20, hu20⟩ : ∃ u, A.tmps.getD 20 undef = u := ⟨_, rfl⟩
  obtain ⟨u21, hu21⟩ : ∃ u, A.tmps.getD 21 undef = u := ⟨_, rfl⟩
  obtain ⟨u22, hu22⟩ : ∃ u, A.tmps.getD 22 undef = u := ⟨_, rfl⟩
  obtain ⟨u23, hu23⟩ : ∃ u, A.tmps.getD 23 undef = u := ⟨_, rfl⟩
  obtain ⟨u24, hu24⟩ : ∃ u, A.tmps.getD 24 undef = u := ⟨_, rfl⟩
  obtain ⟨u25, hu25⟩ : ∃ u, A.tmps.getD 25 undef = u := ⟨_, rfl⟩
  obtain ⟨u26, hu26⟩ : ∃ u, A.tmps.getD 26 undef = u := ⟨_, rfl⟩
  obtain ⟨u27, hu27⟩ : ∃ u, A.tmps.getD 27 undef = u := ⟨_, rfl⟩
  obtain ⟨u28, hu28⟩ : ∃ u, A.tmps.getD 28 undef = u := ⟨_, rfl⟩
  obtain ⟨u29, hu29⟩ : ∃ u, A.tmps.getD 29 undef = u := ⟨_, rfl⟩
  obtain ⟨u30, hu30⟩ : ∃ u, A.tmps.getD 30 undef = u := ⟨_, rfl⟩
  obtain ⟨u31, hu31⟩ : ∃ u, A.tmps.getD 31 undef = u := ⟨_, rfl⟩
  obtain ⟨u32, hu32⟩ : ∃ u, A.tmps.getD 32 undef = u := ⟨_, rfl⟩
  obtain ⟨u33, hu33⟩ : ∃ u, A.tmps.getD 33 undef = u := ⟨_, rfl⟩
  obtain ⟨u34, hu34⟩ : ∃ u, A.tmps.getD 34 undef = u := ⟨_, rfl⟩
  obtain ⟨u35, hu35⟩ : ∃ u, A.tmps.getD 35 undef = u := ⟨_, rfl⟩
  obtain ⟨u36, hu36⟩ : ∃ u, A.tmps.getD 36 undef = u := ⟨_, rfl⟩
  obtain ⟨u37, hu37⟩ : ∃ u, A.tmps.getD 37 undef = u := ⟨_, rfl⟩
  obtain ⟨u38, hu38⟩ : ∃ u, A.tmps.getD 38 undef = u := ⟨_, rfl⟩
  obtain ⟨u39, hu39⟩ : ∃ u, A.tmps.getD 39 undef = u := ⟨_, rfl⟩
  obtain ⟨u40, hu40⟩ : ∃ u, A.tmps.getD 40 undef = u := ⟨_, rfl⟩
  obtain ⟨u41, hu41⟩ : ∃ u, A.tmps.getD 41 undef = u := ⟨_, rfl⟩
  obtain ⟨u42, hu42⟩ : ∃ u, A.tmps.getD 42 undef = u := ⟨_, rfl⟩
  obtain ⟨u43, hu43⟩ : ∃ u, A.tmps.getD 43 undef = u := ⟨_, rfl⟩
  obtain ⟨u44, hu44⟩ : ∃ u, A.tmps.getD 44 undef = u := ⟨_, rfl⟩
  obtain ⟨u45, hu45⟩ : ∃ u, A.tmps.getD 45 undef = u := ⟨_, rfl⟩
  obtain ⟨u46, hu46⟩ : ∃ u, A.tmps.getD 46 undef = u := ⟨_, rfl⟩
  obtain ⟨u47, hu47⟩ : ∃ u, A.tmps.getD 47 undef = u := ⟨_, rfl⟩
  obtain ⟨u48, hu48⟩ : ∃ u, A.tmps.getD 48 undef = u := ⟨_, rfl⟩
  obtain ⟨u49, hu49⟩ : ∃ u, A.tmps.getD 49 undef = u := ⟨_, rfl⟩
  obtain ⟨u50, hu50⟩ : ∃ u, A.tmps.getD 50 undef = u := ⟨_, rfl⟩
  obtain ⟨u51, hu51⟩ : ∃ u, A.tmps.getD 51 undef = u := ⟨_, rfl⟩
  rw [hu2, hu3, hu4, hu5, hu9, hu10, hu11, hu12, hu13, hu14, hu15, hu16, hu17, hu18, hu19, hu20, hu21, hu22, hu23, hu24, hu25, hu26, hu27, hu28, hu29, hu30, hu31, hu32, hu33, hu34, hu35, hu36, hu37, hu38, hu39, hu40, hu41, hu42, hu43, hu44, hu45, hu46, hu47, hu48, hu49, hu50, hu51] at hA
  clear hu2 hu3 hu4 hu5 hu9 hu10 hu11 hu12 hu13 hu14 hu15 hu16 hu17 hu18 hu19 hu20 hu21 hu22 hu23 hu24 hu25 hu26 hu27 hu28 hu29 hu30 hu31 hu32 hu33 hu34 hu35 hu36 hu37 hu38 hu39 hu40 hu41 hu42 hu43 hu44 hu45 hu46 hu47 hu48 hu49 hu50 hu51
  subst hA
  have hbl := hS.bel
  have hcw := hS.far
  have hzw := hbl.size
  have hrow := Lib.hid hS.row
  have hlen := hS.len
  have hsm := hS.small
  have hoff := Lib.hid hS.off
  have hfuel := Lib.hid hS.fuel
  obtain ⟨B, hown⟩ := hS.own
  obtain ⟨sc, rc, hch⟩ := hS.ch
  have hc0 : c0 < wr.heap.size := (Array.getElem?_eq_some_iff.1 hch).1
  have hlt := hown.lt
  have hmr := hm.below hbl hB
  have hfr := hf.below hbl hB1
  have HOWN := Lib.hid hown
  clear hS hown hm hf
  refine wpN_seq (wpN_block ?_)
  refine wpN_seq (wpN_of ?_)
  go_wp2
  refine wpN_seq (wpN_region ?_)
  cases hsp : spB m left
  · rw [hsp] at hch
    have HR : Hid (huR m f = (left, n)) := by
      obtain ⟨k, _, hk⟩ := hfuel.out
      show _ = _
      rw [← hk, huG_stop hsp]
    clear hsp
    refine wpM_default (c := c0) (cap := 1) (s := sc) (r := rc) (z := .agg #[.int .i64 ((fun _ => 0) 0), .int .i64 ((fun _ => 0) 1), .int .i64 ((fun _ => 0) 2), .int .i64 ((fun _ => 0) 3), .int .i64 ((fun _ => 0) 4)]) (tm := false) (by rfl) (by rfl) (by simp [go_sem, execOp, rcase, Act.eval]) hch ?_
    clear hch
    refine wpM_op (by rfl) (by rfl) (fun K hK => ?_)
    go_simp
    refine hK _ _ ?_
    clear hK K
    refine wpM_op (by rfl) (by rfl) (fun K hK => ?_)
    go_simp
    refine hK _ _ ?_
    clear hK K
    refine wpM_nil ?_
    change wpN _ _ _ _ _
    refine wpN_block (wpN_cond (t := false) (by rfl) ?_)
    simp only [Bool.false_eq_true, if_false]
    refine wpN_seq (wpN_of ?_)
    go_wp2_with fail
    refine (i_listsOf (n := m.length) HOWN.out (by omega) (by omega) (by omega) hrow.out).mono ?_
    rintro e w6 ⟨a6, c6, rfl, h6, hb6⟩
    go_wp2
    refine wpN_of ?_
    go_wp2
    go_ret2
    have hz6 := hb6.size
    rw [HE.out.1, HE.out.2, HR.out]
    exact ⟨a6, c6, rfl, ⟨h6.oii.wide (by omega) (Nat.le_refl _), h6.cap⟩, hbl.trans (hb6.mono hzw)⟩
  · rw [hsp] at hch
    have HSPT := Lib.hid hsp
    have hxl := bsL_len (ps := left) HOK.out
    obtain ⟨x, hx⟩ : ∃ x, bsL m left = x := ⟨_, rfl⟩
    have HX := Lib.hid hx
    rw [hx] at hch hxl
    have HXL := Lib.hid hxl
    clear hx hxl hsp
    refine wpM_recv (c := c0) (cap := 1) (s := sc) (r := rc) (buf := #[.agg #[.int .i64 (at5 x 0), .int .i64 (at5 x 1), .int .i64 (at5 x 2), .int .i64 (at5 x 3), .int .i64 (at5 x 4)]]) (z := .agg #[.int .i64 ((fun _ => 0) 0), .int .i64 ((fun _ => 0) 1), .int .i64 ((fun _ => 0) 2), .int .i64 ((fun _ => 0) 3), .int .i64 ((fun _ => 0) 4)]) (tm := false) (closed := false) (by rfl) (by rfl) (by simp [go_sem, execOp, rcase, Act.eval]) hch (by simp) ?_
    have hch1 : (wr.setChan c0 1 #[] false sc (rc + 1) false).heap[c0]? = some (.chan 1 #[] false sc (rc + 1) false) := heap_setChan _ _ _ _ _ _ _ _ hc0
    have hU1 : Upd c0 (c0 + 1) wr (wr.setChan c0 1 #[] false sc (rc + 1) false) := ⟨rfl, rfl, rfl, by rw [size_setChan]; exact Nat.le_refl _, fun k hk h => by simp only [World.setChan]; rw [Array.getElem?_setIfInBounds_ne (by omega)]⟩
    have hW1e : wr.setChan c0 1 ((#[.agg #[.int .i64 (at5 x 0), .int .i64 (at5 x 1), .int .i64 (at5 x 2), .int .i64 (at5 x 3), .int .i64 (at5 x 4)]] : Array Value).extract 1 (#[.agg #[.int .i64 (at5 x 0), .int .i64 (at5 x 1), .int .i64 (at5 x 2), .int .i64 (at5 x 3), .int .i64 (at5 x 4)]] : Array Value).size) false sc (rc + 1) false = wr.setChan c0 1 #[] false sc (rc + 1) false := by congr 1
    rw [hW1e]
    obtain ⟨W1, hW1⟩ : ∃ W1, wr.setChan c0 1 #[] false sc (rc + 1) false = W1 := ⟨_, rfl⟩
    rw [hW1] at hch1 hU1 ⊢
    clear hW1 hW1e hch
    refine wpM_op (by rfl) (by rfl) (fun K hK => ?_)
    go_simp
    refine hK _ _ ?_
    clear hK K
    refine wpM_op (by rfl) (by rfl) (fun K hK => ?_)
    go_simp
    refine hK _ _ ?_
    clear hK K
    refine wpM_nil ?_
    change wpN _ _ _ _ _
    refine wpN_block (wpN_cond (t := true) (by rfl) ?_)
    simp only [if_true]
    have hz1 := hU1.size
    have hA := Lib.hid (heap_alloc_new W1 (.cells #[.int .i64 (at5 x 0), .int .i64 (at5 x 1), .int .i64 (at5 x 2), .int .i64 (at5 x 3), .int .i64 (at5 x 4)] 97))
    have hbA := (Below.refl W1.heap.size W1).alloc (Nat.le_refl _) (.cells #[.int .i64 (at5 x 0), .int .i64 (at5 x 1), .int .i64 (at5 x 2), .int .i64 (at5 x 3), .int .i64 (at5 x 4)] 97)
    refine wpN_seq (wpN_of ?_)
    go_wp2
    obtain ⟨W2, hW2⟩ : ∃ W2, W1.alloc (.cells #[.int .i64 (at5 x 0), .int .i64 (at5 x 1), .int .i64 (at5 x 2), .int .i64 (at5 x 3), .int .i64 (at5 x 4)] 97) = W2 := ⟨_, rfl⟩
    have hz2 : W1.heap.size + 1 ≤ W2.heap.size ∧ W2.heap.size ≤ W1.heap.size + 1 := by rw [← hW2]; simp
    rw [hW2] at hA hbA ⊢
    clear hW2
    have hbl1 : Below w.heap.size w W1 := ⟨hU1.os.trans hbl.os, hU1.tape.trans hbl.tape, hU1.output.trans hbl.output, Nat.le_trans hbl.size hU1.size, fun k hk => (hU1.block k (by omega) (by have := hcw; omega)).trans (hbl.block k hk)⟩
    have hbl2 : Below w.heap.size w W2 := hbl1.trans (hbA.mono (by omega))
    have hmr2 : RI W2 lo hi a m := (hmr.upd hU1 (by omega) (by omega)).below hbA (by omega)
    have hfr2 : RI W2 lo1 hi1 a1 f := (hfr.upd hU1 (by omega) (by omega)).below hbA (by omega)
    have hown2 : OwnP W2 B (.slice av left.length cv) left := (HOWN.out.kept fun j hj hg => hU1.block j hj (by have := hoff.out j hg; omega)).kept fun j hj _ => hbA.block j hj
    have HS : Hid (∀ w', Below W2.heap.size W2 w' → w'.cell? ⟨W1.heap.size, 0, none⟩ = some (.int .i64 (at5 x 0)) ∧ w'.cell? ⟨W1.heap.size, 1, none⟩ = some (.int .i64 (at5 x 1)) ∧ w'.cell? ⟨W1.heap.size, 2, none⟩ = some (.int .i64 (at5 x 2)) ∧ w'.cell? ⟨W1.heap.size, 3, none⟩ = some (.int .i64 (at5 x 3)) ∧ w'.cell? ⟨W1.heap.size, 4, none⟩ = some (.int .i64 (at5 x 4))) := fun w' hb => cells5 ((hb.block W1.heap.size (by omega)).trans hA.out)
    have HPF : Hid (∀ w', Below W2.heap.size W2 w' → Calls Try.prog 133 #[.slice a1 f.length c1] w' (NewV w' (.agg #[.int .i64 (at5 f 0), .int .i64 (at5 f 1), .int .i64 (at5 f 2), .int .i64 (at5 f 3), .int .i64 (at5 f 4)]))) := fun w' hb => i_patternOf (hfr2.below hb (by omega)) (by have := hb.size; omega) hfl5
    have HMV : Hid (∀ w', Calls Try.prog 167 #[.agg #[.int .i64 (at5 f 0), .int .i64 (at5 f 1), .int .i64 (at5 f 2), .int .i64 (at5 f 3), .int .i64 (at5 f 4)], .agg #[.int .i64 (at5 x 0), .int .i64 (at5 x 1), .int .i64 (at5 x 2), .int .i64 (at5 x 3), .int .i64 (at5 x 4)]] w' (NewV w' (.bool (mB f x)))) := fun w' => by
      have h := i_meets (at5 f) (at5 x) w'
      rwa [meet5_mB (by rw [HFL.out, HXL.out]) hfl5] at h
    have HME : Hid (∀ l ∈ left, meet5 (at5 l) (at5 x) = mB l x) := fun l hl => meet5_mB (by rw [hrow.out l hl, HXL.out]) (by rw [hrow.out l hl]; omega)
    have hch2 : W2.heap[c0]? = some (.chan 1 #[] false sc (rc + 1) false) := (hbA.block c0 (by omega)).trans hch1
    have HCH2 := Lib.hid hch2
    have HKE : Hid (huK f x left = left.filter fun l => mB l x == mB f x) := rfl
    have HKL : Hid ((huK f x left).length < left.length) := by show _ < _; rw [← HX.out]; exact huK_lt HSPT.out
    clear hch1 hch2 hA hmr hfr HOWN
    cases hy : mB f x
    · rw [hy] at HMV HKE
      clear hy
      have HKE : Hid (huK f x left = left.filter fun l => mB l x == false) := HKE
      refine wpN_seq (wpN_of ?_)
      refine wp_region_new (by rfl) (by kernel_rfl) ?_
      (refine wpQuiet_step (fun K hK => ?_); go_simp; refine ⟨.agg #[.int .i64 (at5 x 0), .int .i64 (at5 x 1), .int .i64 (at5 x 2), .int .i64 (at5 x 3), .int .i64 (at5 x 4)], fun wq hq => ?_, hK _ ?_⟩; (obtain ⟨s0, s1, s2, s3, s4⟩ := HS.out wq hq; simp [s0, s1, s2, s3, s4, Result.andThen]); clear hK K)
      (refine wpQuiet_step (fun K hK => ?_); go_simp; first | refine hK _ ?_ | refine ⟨_, fun _ _ => rfl, hK _ ?_⟩; clear hK K)
      (refine wpQuiet_step (fun K hK => ?_); go_simp; refine ⟨.agg #[.int .i64 (at5 f 0), .int .i64 (at5 f 1), .int .i64 (at5 f 2), .int .i64 (at5 f 3), .int .i64 (at5 f 4)], fun wq hq => (HPF.out wq hq).mono ?_, hK _ ?_⟩; (rintro e wr ⟨rfl, hbr⟩; exact ⟨rfl, hq.trans (hbr.mono hq.size)⟩); clear hK K)
      (refine wpQuiet_step (fun K hK => ?_); go_simp; refine ⟨.agg #[.int .i64 (at5 x 0), .int .i64 (at5 x 1), .int .i64 (at5 x 2), .int .i64 (at5 x 3), .int .i64 (at5 x 4)], fun wq hq => ?_, hK _ ?_⟩; (obtain ⟨s0, s1, s2, s3, s4⟩ := HS.out wq hq; simp [s0, s1, s2, s3, s4, Result.andThen]); clear hK K)
      (refine wpQuiet_step (fun K hK => ?_); go_simp; refine ⟨.bool false, fun wq hq => (HMV.out wq).mono ?_, hK _ ?_⟩; (rintro e wr ⟨rfl, hbr⟩; exact ⟨rfl, hq.trans (hbr.mono hq.size)⟩); clear hK K)
      (refine wpQuiet_step (fun K hK => ?_); go_simp; refine ⟨.iface 191 (.agg #[.int .i64 (at5 x 0), .int .i64 (at5 x 1), .int .i64 (at5 x 2), .int .i64 (at5 x 3), .int .i64 (at5 x 4)]), fun wq hq => (i_resultOf_f (at5 x) wq).mono ?_, hK _ ?_⟩; (rintro e wr ⟨rfl, hbr⟩; exact ⟨rfl, hq.trans (hbr.mono hq.size)⟩); clear hK K)
      (refine wpQuiet_step (fun K hK => ?_); go_simp; first | refine hK _ ?_ | refine ⟨_, fun _ _ => rfl, hK _ ?_⟩; clear hK K)
      refine wpQuiet_nil ?_
      intro w6 hb6
      change wpN _ _ _ _ _
      have hz6 := hb6.size
      have hown6 : OwnP w6 B (.slice av left.length cv) left := hown2.kept fun j hj _ => hb6.block j hj
      have hbl6 := hbl2.trans (hb6.mono (by omega))
      have hmr6 := hmr2.below hb6 (by omega)
      have hch6 : w6.heap[c0]? = some (.chan 1 #[] false sc (rc + 1) false) := (hb6.block c0 (by omega)).trans HCH2.out
      have HCH6 := Lib.hid hch6
      clear hown2 hch6 hb6
      refine wpN_seq (wpN_of ?_)
      go_wp2_with fail
      refine (i_keptA (at5 x) (fun l => mB l x == false) hown6 (Below.refl _ _) (by omega) (fun l hl w' _ => by
        have h := i_agreesP (at5 l) (at5 x) w'
        rw [HME.out l hl] at h
        have e : (!mB l x) = (mB l x == false) := by cases mB l x <;> rfl
        rw [e] at h; exact h)).mono ?_
      rintro e w7 ⟨v7, rfl, ho7, hb7⟩
      rw [← HKE.out] at ho7
      obtain ⟨av7, cv7, hv7, _⟩ := ho7.at
      subst hv7
      have hz7 := hb7.size
      have hlt7 := ho7.lt
      have HO7 := Lib.hid ho7
      have HCH7 : Hid (w7.heap[c0]? = some (.chan 1 #[] false sc (rc + 1) false)) := (hb7.block c0 (by omega)).trans HCH6.out
      have hbl7 := hbl6.trans (hb7.mono (by omega))
      have hmr7 := hmr6.below hb7 (by omega)
      have HKR : Hid (∀ p ∈ huK f x left, p.length = m.length) := fun p hp => hrow.out p (List.mem_filter.1 hp).1
      have hkl := HKL.out
      clear ho7 hown6
      go_wp2
      refine wpN_of ?_
      go_wp2_with fail
      refine (i_sendSplit (s := sc) (r := rc + 1) HOK.out hmr7 (by omega) HO7.out (Below.refl _ _) (by omega) HKR.out HCH7.out).mono ?_
      rintro e w8 ⟨rfl, hch8, hU8⟩
      have hz8 := hU8.size
      go_wp2
      refine wpN_of ?_
      go_wp2
      have HST : Hid (HuS m f c0 w av7 cv7 (huK f x left) (n + 1) w8) := by
        obtain ⟨s8, hc8⟩ := hch8
        refine ⟨hcw, ⟨_, HO7.out.kept fun j hj hg => hU8.block j hj (by have := hlt7 j hg; omega)⟩, fun g hg => by have := hlt7 g hg; omega, ⟨s8, _, hc8⟩,
          ⟨hU8.os.trans hbl7.os, hU8.tape.trans hbl7.tape, hU8.output.trans hbl7.output, Nat.le_trans hbl7.size hU8.size, fun k hk => (hU8.block k (by omega) (by omega)).trans (hbl7.block k hk)⟩, ?_, HKR.out, by omega, by omega⟩
        obtain ⟨k, hk1, hk2⟩ := hfuel.out
        cases k with
        | zero => omega
        | succ k =>
          refine ⟨k, by omega, ?_⟩
          rw [← hk2, huG_step HSPT.out, HX.out]
      refine ⟨⟨huK f x left, av7, cv7, n + 1, rfl, HST.out⟩, ?_⟩
      simp [lenV]
      exact hkl
    · rw [hy] at HMV HKE
      clear hy
      have HKE : Hid (huK f x left = left.filter fun l => mB l x == true) := HKE
      refine wpN_seq (wpN_of ?_)
      refine wp_region_new (by rfl) (by kernel_rfl) ?_
      (refine wpQuiet_step (fun K hK => ?_); go_simp; refine ⟨.agg #[.int .i64 (at5 x 0), .int .i64 (at5 x 1), .int .i64 (at5 x 2), .int .i64 (at5 x 3), .int .i64 (at5 x 4)], fun wq hq => ?_, hK _ ?_⟩; (obtain ⟨s0, s1, s2, s3, s4⟩ := HS.out wq hq; simp [s0, s1, s2, s3, s4, Result.andThen]); clear hK K)
      (refine wpQuiet_step (fun K hK => ?_); go_simp; first | refine hK _ ?_ | refine ⟨_, fun _ _ => rfl, hK _ ?_⟩; clear hK K)
      (refine wpQuiet_step (fun K hK => ?_); go_simp; refine ⟨.agg #[.int .i64 (at5 f 0), .int .i64 (at5 f 1), .int .i64 (at5 f 2), .int .i64 (at5 f 3), .int .i64 (at5 f 4)], fun wq hq => (HPF.out wq hq).mono ?_, hK _ ?_⟩; (rintro e wr ⟨rfl, hbr⟩; exact ⟨rfl, hq.trans (hbr.mono hq.size)⟩); clear hK K)
      (refine wpQuiet_step (fun K hK => ?_); go_simp; refine ⟨.agg #[.int .i64 (at5 x 0), .int .i64 (at5 x 1), .int .i64 (at5 x 2), .int .i64 (at5 x 3), .int .i64 (at5 x 4)], fun wq hq => ?_, hK _ ?_⟩; (obtain ⟨s0, s1, s2, s3, s4⟩ := HS.out wq hq; simp [s0, s1, s2, s3, s4, Result.andThen]); clear hK K)
      (refine wpQuiet_step (fun K hK => ?_); go_simp; refine ⟨.bool true, fun wq hq => (HMV.out wq).mono ?_, hK _ ?_⟩; (rintro e wr ⟨rfl, hbr⟩; exact ⟨rfl, hq.trans (hbr.mono hq.size)⟩); clear hK K)
      (refine wpQuiet_step (fun K hK => ?_); go_simp; refine ⟨.iface 192 (.agg #[.int .i64 (at5 x 0), .int .i64 (at5 x 1), .int .i64 (at5 x 2), .int .i64 (at5 x 3), .int .i64 (at5 x 4)]), fun wq hq => (i_resultOf_t (at5 x) wq).mono ?_, hK _ ?_⟩; (rintro e wr ⟨rfl, hbr⟩; exact ⟨rfl, hq.trans (hbr.mono hq.size)⟩); clear hK K)
      (refine wpQuiet_step (fun K hK => ?_); go_simp; first | refine hK _ ?_ | refine ⟨_, fun _ _ => rfl, hK _ ?_⟩; clear hK K)
      refine wpQuiet_nil ?_
      intro w6 hb6
      change wpN _ _ _ _ _
      have hz6 := hb6.size
      have hown6 : OwnP w6 B (.slice av left.length cv) left := hown2.kept fun j hj _ => hb6.block j hj
      have hbl6 := hbl2.trans (hb6.mono (by omega))
      have hmr6 := hmr2.below hb6 (by omega)
      have hch6 : w6.heap[c0]? = some (.chan 1 #[] false sc (rc + 1) false) := (hb6.block c0 (by omega)).trans HCH2.out
      have HCH6 := Lib.hid hch6
      clear hown2 hch6 hb6
      refine wpN_seq (wpN_of ?_)
      go_wp2_with fail
      refine (i_keptF (at5 x) (fun l => mB l x == true) hown6 (Below.refl _ _) (by omega) (fun l hl w' _ => by
        have h := i_agreesF (at5 l) (at5 x) w'
        rw [HME.out l hl] at h
        have e : mB l x = (mB l x == true) := by cases mB l x <;> rfl
        rw [e] at h; exact h)).mono ?_
      rintro e w7 ⟨v7, rfl, ho7, hb7⟩
      rw [← HKE.out] at ho7
      obtain ⟨av7, cv7, hv7, _⟩ := ho7.at
      subst hv7
      have hz7 := hb7.size
      have hlt7 := ho7.lt
      have HO7 := Lib.hid ho7
      have HCH7 : Hid (w7.heap[c0]? = some (.chan 1 #[] false sc (rc + 1) false)) := (hb7.block c0 (by omega)).trans HCH6.out
      have hbl7 := hbl6.trans (hb7.mono (by omega))
      have hmr7 := hmr6.below hb7 (by omega)
      have HKR : Hid (∀ p ∈ huK f x left, p.length = m.length) := fun p hp => hrow.out p (List.mem_filter.1 hp).1
      have hkl := HKL.out
      clear ho7 hown6
      go_wp2
      refine wpN_of ?_
      go_wp2_with fail
      refine (i_sendSplit (s := sc) (r := rc + 1) HOK.out hmr7 (by omega) HO7.out (Below.refl _ _) (by omega) HKR.out HCH7.out).mono ?_
      rintro e w8 ⟨rfl, hch8, hU8⟩
      have hz8 := hU8.size
      go_wp2
      refine wpN_of ?_
      go_wp2
      have HST : Hid (HuS m f c0 w av7 cv7 (huK f x left) (n + 1) w8) := by
        obtain ⟨s8, hc8⟩ := hch8
        refine ⟨hcw, ⟨_, HO7.out.kept fun j hj hg => hU8.block j hj (by have := hlt7 j hg; omega)⟩, fun g hg => by have := hlt7 g hg; omega, ⟨s8, _, hc8⟩,
          ⟨hU8.os.trans hbl7.os, hU8.tape.trans hbl7.tape, hU8.output.trans hbl7.output, Nat.le_trans hbl7.size hU8.size, fun k hk => (hU8.block k (by omega) (by omega)).trans (hbl7.block k hk)⟩, ?_, HKR.out, by omega, by omega⟩
        obtain ⟨k, hk1, hk2⟩ := hfuel.out
        cases k with
        | zero => omega
        | succ k =>
          refine ⟨k, by omega, ?_⟩
          rw [← hk2, huG_step HSPT.out, HX.out]
      refine ⟨⟨huK f x left, av7, cv7, n + 1, rfl, HST.out⟩, ?_⟩
      simp [lenV]
      exact hkl

end Go.Proofs.Ytehoagbpgahopaa
