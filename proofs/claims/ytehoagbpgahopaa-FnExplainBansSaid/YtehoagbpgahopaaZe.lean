/- Walks: the search for the first allowed test that completes a pattern. -/
import Derived.Test.YtehoagbpgahopaaZb
import Derived.Test.YtehoagbpgahopaaZn
import Derived.ScopeJumps
import Derived.WalkMore
namespace Go.Proofs.Ytehoagbpgahopaa
open Go.RowKit

/-- the first place with Any, or none -/
def opn5 (T : Nat → Int) : Option Nat := (List.range 5).find? fun i => T i == -1
theorem opn5_some {T : Nat → Int} {o : Nat} (h : opn5 T = some o) : o < 5 ∧ T o = -1 ∧ ∀ g, g < o → T g ≠ -1 := by
  unfold opn5 at h
  rw [List.find?_range_eq_some] at h
  refine ⟨by simpa using h.2.1, by simpa using h.1, fun g hg => ?_⟩
  have := h.2.2 g hg
  simpa using this
theorem opn5_none {T : Nat → Int} (h : opn5 T = none) : ∀ g, g < 5 → T g ≠ -1 := by
  unfold opn5 at h
  rw [List.find?_eq_none] at h
  intro g hg
  have := h g (List.mem_range.2 hg)
  simpa using this

def opnV (T : Nat → Int) : Int := match opn5 T with | some o => (o : Int) | none => -1
theorem opnV_some {T : Nat → Int} {o : Nat} (h : opn5 T = some o) : opnV T = o := by unfold opnV; rw [h]
theorem opnV_none {T : Nat → Int} (h : opn5 T = none) : opnV T = -1 := by unfold opnV; rw [h]

set_option maxHeartbeats 1000000 in
theorem x_IndexI (T : Nat → Int) (b : Nat) (w : World) (hp : w.heap[b]? = some (.cells #[.int .i64 (T 0), .int .i64 (T 1), .int .i64 (T 2), .int .i64 (T 3), .int .i64 (T 4)] 97 (0, 0))) :
    Calls Try.prog 224 #[.slice (some ⟨b, 0, none⟩) 5 5, .int .i64 (-1)] w (RO w (.int .i64 (opnV T))) := by
  have HP := Lib.hid hp
  clear hp
  go_enter Try.func224, Try.ntmps224
  go_wp2
  go_loopw [5, 8] (fun _ i wr => ∃ k : Nat, k ≤ 5 ∧ i = .int .i64 k ∧ Dr w wr ∧ Hid (∀ g, g < k → T g ≠ -1)) (fun _ i _ => 5 - (intOf i).toNat)
  case atStart => exact ⟨0, Nat.zero_le _, rfl, Dr.refl _, fun g hg => by omega⟩
  case round =>
    obtain ⟨k, hk, rfl, hd, hA⟩ := hrel
    by_cases hlt : k < 5
    · have hidx := idxI (a := some ⟨b, 0, none⟩) (len := 5) (k := k) rfl hlt 5
      have hc : wr.cell? ⟨b, k, none⟩ = some (.int .i64 (T k)) := cell5 (((hd.below (b + 1)).block b (by omega)).trans HP.out) hlt
      by_cases hx : T k = -1
      · have hc2 : (-1 == T k) = true := by rw [hx]; rfl
        have HO : Hid (opnV T = k) := by
          refine opnV_some ?_
          unfold opn5
          rw [List.find?_range_eq_some]
          exact ⟨by simp [hx], by simpa using hlt, fun g hg => by have := hA.out g hg; simpa using this⟩
        clear hx
        go_wp2
        go_ret
        rw [HO.out]
        exact ⟨rfl, hd⟩
      · have hc2 : (-1 == T k) = false := by rw [beq_eq_false_iff_ne]; exact fun h => hx h.symm
        have HX : Hid (∀ g, g < k + 1 → T g ≠ -1) := fun g hg => by
          by_cases e : g = k
          · subst e; exact hx
          · exact hA.out g (by omega)
        clear hx
        go_wp2
        go_roundw
        case rel => exact ⟨k + 1, by omega, by go_num, hd, HX⟩
        case measure => simp [intOf]; omega
    · have HO : Hid (opnV T = -1) := by
        refine opnV_none ?_
        unfold opn5
        rw [List.find?_eq_none]
        intro g hg
        have := hA.out g (by have := List.mem_range.1 hg; omega)
        simpa using this
      go_wp2
      go_ret
      rw [HO.out]
      exact ⟨rfl, hd⟩

theorem codeT_congr {T T' : Nat → Int} (h : ∀ i, i < 5 → T i = T' i) : codeT T = codeT T' := by
  unfold codeT
  rw [h 0 (by omega), h 1 (by omega), h 2 (by omega), h 3 (by omega), h 4 (by omega)]
/-- how much of the search is left: the test lies in block B -/
def leftT (B : Nat) (w : World) : Nat := 1024 - codeT fun i => intOf ((w.cell? ⟨B, i, none⟩).getD undef)
theorem leftT_eq {B t : Nat} {w : World} {T : Nat → Int} (h : w.heap[B]? = some (.cells #[.int .i64 (T 0), .int .i64 (T 1), .int .i64 (T 2), .int .i64 (T 3), .int .i64 (T 4)] t (0, 0))) : leftT B w = 1024 - codeT T := by
  unfold leftT
  congr 1
  refine codeT_congr fun i hi => ?_
  rw [cell5 h hi]; rfl
/-- what holds when the search begins anew -/
structure Srch (m p : List Int) (b : List (List Int)) (a : Option Addr) (c : Nat) (v : Value) (w w' : World) (T : Nat → Int) : Prop where
  h0 : w'.heap[w.heap.size]? = some (.cells #[.slice a m.length c, v] 93 (0, 0))
  h1 : w'.heap[w.heap.size + 1]? = some (.cells #[.int .i64 (at5 p 0), .int .i64 (at5 p 1), .int .i64 (at5 p 2), .int .i64 (at5 p 3), .int .i64 (at5 p 4)] 97 (0, 0))
  h2 : w'.heap[w.heap.size + 1 + 1]? = some (.cells #[.int .i64 ((fun _ => 0) 0), .int .i64 ((fun _ => 0) 1), .int .i64 ((fun _ => 0) 2), .int .i64 ((fun _ => 0) 3), .int .i64 ((fun _ => 0) 4)] 97 (0, 0))
  h3 : w'.heap[w.heap.size + 1 + 1 + 1]? = some (.cells #[.int .i64 (T 0), .int .i64 (T 1), .int .i64 (T 2), .int .i64 (T 3), .int .i64 (T 4)] 97 (0, 0))
  hb : Below w.heap.size w w'
  st : St m p T
  iv : Inv m b p T
theorem Srch.keep {m p : List Int} {b : List (List Int)} {a : Option Addr} {c : Nat} {v : Value} {w w' w'' : World} {T : Nat → Int} (h : Srch m p b a c v w w' T) (hk : Below w'.heap.size w' w'') : Srch m p b a c v w w'' T := by
  have hs : w.heap.size + 1 + 1 + 1 < w'.heap.size := (Array.getElem?_eq_some_iff.1 h.h3).1
  exact ⟨(hk.block _ (by omega)).trans h.h0, (hk.block _ (by omega)).trans h.h1, (hk.block _ (by omega)).trans h.h2, (hk.block _ (by omega)).trans h.h3, h.hb.trans (hk.mono (by omega)), h.st, h.iv⟩

/-- the frame when the search begins anew -/
def SrJ (m p : List Int) (b : List (List Int)) (a : Option Addr) (c : Nat) (v : Value) (w : World) (a' : Act) (w' : World) : Prop := ∃ (T : Nat → Int) (u7 u8 u9 u10 u11 u12 u13 u14 u15 u16 u17 u18 u19 u20 u21 u22 u23 u24 u25 u26 u27 u28 u29 u30 u31 u32 u33 u34 u35 u36 u37 u38 u39 u40 u41 u42 u43 u44 u45 u46 u47 u48 u49 u50 u51 u52 u53 : Value), a' = { tmps := #[.agg #[.slice a m.length c, v], .agg #[.int .i64 (at5 p 0), .int .i64 (at5 p 1), .int .i64 (at5 p 2), .int .i64 (at5 p 3), .int .i64 (at5 p 4)], .pointer (some ⟨w.heap.size, 0, none⟩), .pointer (some ⟨w.heap.size + 1, 0, none⟩), .pointer (some ⟨w.heap.size + 1 + 1, 0, none⟩), .bool false, .pointer (some ⟨w.heap.size + 1 + 1 + 1, 0, none⟩), u7, u8, u9, u10, u11, u12, u13, u14, u15, u16, u17, u18, u19, u20, u21, u22, u23, u24, u25, u26, u27, u28, u29, u30, u31, u32, u33, u34, u35, u36, u37, u38, u39, u40, u41, u42, u43, u44, u45, u46, u47, u48, u49, u50, u51, u52, u53], defers := [] } ∧ Srch m p b a c v w w' T

theorem setT {w : World} {b t f : Nat} {T : Nat → Int} (h : w.heap[b]? = some (.cells #[.int .i64 (T 0), .int .i64 (T 1), .int .i64 (T 2), .int .i64 (T 3), .int .i64 (T 4)] t (0, 0))) (hf : f < 5) (x : Int) : (w.setCell ⟨b, f, none⟩ (.int .i64 x)).heap[b]? = some (.cells #[.int .i64 (upT T f x 0), .int .i64 (upT T f x 1), .int .i64 (upT T f x 2), .int .i64 (upT T f x 3), .int .i64 (upT T f x 4)] t (0, 0)) := by
  rw [set1 h]
  obtain rfl | rfl | rfl | rfl | rfl : f = 0 ∨ f = 1 ∨ f = 2 ∨ f = 3 ∨ f = 4 := by omega
  all_goals rfl
theorem results_cell_row_tmp {fn : Func} {p u : Tmp} {ty : TypeId} (h : fn.results = #[.cell p ty, .tmp u]) (tmps : Array Value) (w : World) (g : Nat) (t : TypeId) (cs : Array Value) (fr : Nat × Nat) (n : Nat) (e : TypeId)
    (hp : tmps.getD p undef = .pointer (some ⟨g, 0, none⟩)) (hg : w.heap[g]? = some (.cells cs t fr)) (hu : Try.prog.underlying ty = some (.array n e)) (hi : (Try.prog.info? ty).map (·.size) = some cs.size) :
    (results fn tmps).run Try.prog w = .ok (.tuple #[.agg cs, tmps.getD u undef]) w := by
  rw [results_cell_tmp h, hp]
  simp [asAddr, Result.andThen, run_loadVar_row w g t ty cs fr (.array n e) hg hu rfl hi]
theorem infoPat1 : (Try.prog.info? 97).map (·.size) = some 5 := by kernel_rfl

set_option maxRecDepth 100000 in
set_option maxHeartbeats 4000000 in
theorem i_completed {m p : List Int} {b : List (List Int)} {v : Value} {a : Option Addr} {c lo hi B : Nat} {w0 w : World} (hm : RI w lo hi a m) (hhi : hi ≤ w.heap.size) (ho : OwnBn w0 B v b) (hb0 : Below w0.heap.size w0 w) (hok : okM m = true) (hob : okBn m b = true) (hop : okP m p = true) :
    Calls Try.prog 136 #[.agg #[.slice a m.length c, v], .agg #[.int .i64 (at5 p 0), .int .i64 (at5 p 1), .int .i64 (at5 p 2), .int .i64 (at5 p 3), .int .i64 (at5 p 4)]] w (NewV w (.tuple #[.agg #[.int .i64 (at5 ((ctO m b p).getD []) 0), .int .i64 (at5 ((ctO m b p).getD []) 1), .int .i64 (at5 ((ctO m b p).getD []) 2), .int .i64 (at5 ((ctO m b p).getD []) 3), .int .i64 (at5 ((ctO m b p).getD []) 4)], .bool (ctO m b p).isSome])) := by
  have hml := okM_len hok
  have HOK := Lib.hid hok; have HOB := Lib.hid hob; have HOP := Lib.hid hop
  have hpl := okW_len hop
  have HPL := Lib.hid hpl
  have hbl := okBn_len hob
  clear hok hob hop hpl
  obtain ⟨RV, hRV⟩ : ∃ RV, RV = (Value.tuple #[.agg #[.int .i64 (at5 ((ctO m b p).getD []) 0), .int .i64 (at5 ((ctO m b p).getD []) 1), .int .i64 (at5 ((ctO m b p).getD []) 2), .int .i64 (at5 ((ctO m b p).getD []) 3), .int .i64 (at5 ((ctO m b p).getD []) 4)], .bool (ctO m b p).isSome]) := ⟨_, rfl⟩
  have HRV := Lib.hid hRV
  rw [← hRV]
  clear hRV
  obtain ⟨A0, A1, A2, A3, AB⟩ := al4 w (.cells #[.slice a m.length c, v] 93) (.cells #[.int .i64 (at5 p 0), .int .i64 (at5 p 1), .int .i64 (at5 p 2), .int .i64 (at5 p 3), .int .i64 (at5 p 4)] 97) (.cells #[.int .i64 ((fun _ => 0) 0), .int .i64 ((fun _ => 0) 1), .int .i64 ((fun _ => 0) 2), .int .i64 ((fun _ => 0) 3), .int .i64 ((fun _ => 0) 4)] 97) (.cells #[.int .i64 (at5 p 0), .int .i64 (at5 p 1), .int .i64 (at5 p 2), .int .i64 (at5 p 3), .int .i64 (at5 p 4)] 97)
  have HS0 : Hid (Srch m p b a c v w ((((w.alloc (.cells #[.slice a m.length c, v] 93)).alloc (.cells #[.int .i64 (at5 p 0), .int .i64 (at5 p 1), .int .i64 (at5 p 2), .int .i64 (at5 p 3), .int .i64 (at5 p 4)] 97)).alloc (.cells #[.int .i64 ((fun _ => 0) 0), .int .i64 ((fun _ => 0) 1), .int .i64 ((fun _ => 0) 2), .int .i64 ((fun _ => 0) 3), .int .i64 ((fun _ => 0) 4)] 97)).alloc (.cells #[.int .i64 (at5 p 0), .int .i64 (at5 p 1), .int .i64 (at5 p 2), .int .i64 (at5 p 3), .int .i64 (at5 p 4)] 97)) (at5 p)) := ⟨A0, A1, A2, A3, AB, St.start HOP.out, Inv.start hml.2 HOP.out⟩
  clear A0 A1 A2 A3 AB
  go_enter Try.func136, Try.ntmps136
  go_wp2
  refine wp_scope_once 0 (SrJ m p b a c v w) (fun _ w' => leftT (w.heap.size + 1 + 1 + 1) w') rfl ?_ ?_
  · rintro a' w' ⟨T, u7, u8, u9, u10, u11, u12, u13, u14, u15, u16, u17, u18, u19, u20, u21, u22, u23, u24, u25, u26, u27, u28, u29, u30, u31, u32, u33, u34, u35, u36, u37, u38, u39, u40, u41, u42, u43, u44, u45, u46, u47, u48, u49, u50, u51, u52, u53, rfl, hS⟩
    have HH := hS.h3
    have hcT := cells5' HH
    have hc0 := cell_of_row _ _ 0 _ _ _ hS.h0
    have hc1 := cell_of_row _ _ 1 _ _ _ hS.h0
    simp at hc0 hc1
    have HSr := Lib.hid hS
    have hsz : w.heap.size + 1 + 1 + 1 < w'.heap.size := (Array.getElem?_eq_some_iff.1 HH).1
    have hbw := Lib.hid hS.hb
    obtain ⟨t0, t1, t2, t3, t4⟩ := hcT
    clear hS HH
    go_wp2_with fail
    refine (i_forbid T ho (hb0.trans (hbw.out.mono hb0.size)) (by omega)).mono ?_
    rintro e w2 ⟨rfl, hb2⟩
    have HS2 := Lib.hid (HSr.out.keep hb2)
    cases hf : fbB b T
    · have HF := Lib.hid hf
      clear hf
      go_wp2_with fail
      refine (x_IndexI T (w.heap.size + 1 + 1 + 1) w2 HS2.out.h3).mono ?_
      rintro e w3 ⟨rfl, hd3⟩
      have hd3 : Dr w2 w3 := hd3
      have HS3 := Lib.hid (HS2.out.keep (Dr.below hd3 _))
      have hS3 := HS3.out
      obtain ⟨t0, t1, t2, t3, t4⟩ := cells5' hS3.h3
      cases ho5 : opn5 T with
      | none =>
        have HO := Lib.hid ho5
        rw [opnV_none ho5]
        obtain ⟨r0, r1, r2, r3, r4⟩ := cells5' (P := fun _ => 0) hS3.h2
        have f0 := frozen5 hS3.h2 0
        have f1 := frozen5 hS3.h2 1
        have f2 := frozen5 hS3.h2 2
        have f3 := frozen5 hS3.h2 3
        have f4 := frozen5 hS3.h2 4
        clear ho5 hS3
        go_wp2
        obtain ⟨W, hWe, hW, hbW⟩ := set5b (n := w.heap.size) HS3.out.hb (by omega) (by rfl) HS3.out.h2 (.int .i64 (T 0)) (.int .i64 (T 1)) (.int .i64 (T 2)) (.int .i64 (T 3)) (.int .i64 (T 4))
        rw [← hWe]
        have hct := done_ok HOK.out HS3.out.st HS3.out.iv HOB.out HOP.out HF.out (opn5_none HO.out)
        have hRV : RV = .tuple #[.agg #[.int .i64 (T 0), .int .i64 (T 1), .int .i64 (T 2), .int .i64 (T 3), .int .i64 (T 4)], .bool true] := by
          rw [HRV.out, hct]
          simp only [Option.getD_some, Option.isSome_some, lT_at5 HS3.out.st]
        simp only [Exit.jump]
        exact bodyPost_ret (v := RV) (by rw [hRV]; exact results_cell_row_tmp Try.results136 _ _ _ _ _ (0, 0) 5 _ rfl hW undPat infoPat1) rfl ⟨rfl, hbW⟩
      | some o =>
        obtain ⟨ho1, ho2, ho3⟩ := opn5_some ho5
        rw [opnV_some ho5]
        have HOO := Lib.hid ho2
        have HO3 := Lib.hid ho3
        have hia := idxAt5 (w.heap.size + 1 + 1 + 1) ho1
        have hco := cell5 hS3.h3 ho1
        have hfo := frozen5 hS3.h3 o
        clear ho5 ho2 ho3 hS3
        go_wp2
        go_step3
        have hso := HS3.out.st.open HOK.out HOO.out HO3.out
        have hS4 : Srch m p b a c v w (w3.setCell ⟨w.heap.size + 1 + 1 + 1, o, none⟩ (.int .i64 0)) (upT T o 0) := by
          have hS := HS3.out
          exact ⟨(Below.heap_setCell _ _ _ _ (by simp; omega)).trans hS.h0, (Below.heap_setCell _ _ _ _ (by simp)).trans hS.h1, (Below.heap_setCell _ _ _ _ (by simp)).trans hS.h2, setT hS.h3 ho1 0, hS.hb.setCell (by simp; omega) _, hso.2, hS.iv.open hS.st hso.1 hml.2 HPL.out HOO.out⟩
        change 0 = 0 ∧ (SrJ m p b a c v w _ _ ∧ _)
        refine ⟨rfl, ⟨_, _, _, _, _, _, _, _, _, _, _, _, _, _, _, _, _, _, _, _, _, _, _, _, _, _, _, _, _, _, _, _, _, _, _, _, _, _, _, _, _, _, _, _, _, _, _, _, rfl, hS4⟩, ?_⟩
        show leftT _ _ < leftT _ _
        rw [leftT_eq hS4.h3, leftT_eq HSr.out.h3]
        have h1 := code_lt (HSr.out.st.lev5 HOK.out) (hS4.st.lev5 HOK.out) (lx_up ho1 (by rw [HOO.out]; decide))
        have h2 := code_le (hS4.st.lev5 HOK.out)
        omega
    · have HF := Lib.hid hf
      clear hf
      have hS2 := HS2.out
      have q0 := cell_of_row _ _ 0 _ _ _ hS2.h0
      simp at q0
      clear hS2 hc0 hc1 t0 t1 t2 t3 t4
      go_wp2
      go_loopw [8] (fun f wr => ∃ k : Nat, k ≤ m.length ∧ ((k = 0 ∧ f = .int .i64 (-1)) ∨ ∃ q : Nat, k = q + 1 ∧ f = .int .i64 (q : Int)) ∧
        wr.heap[w.heap.size]? = some (.cells #[.slice a m.length c, v] 93 (0, 0)) ∧ wr.heap[w.heap.size + 1]? = some (.cells #[.int .i64 (at5 p 0), .int .i64 (at5 p 1), .int .i64 (at5 p 2), .int .i64 (at5 p 3), .int .i64 (at5 p 4)] 97 (0, 0)) ∧
        wr.heap[w.heap.size + 1 + 1]? = some (.cells #[.int .i64 ((fun _ => 0) 0), .int .i64 ((fun _ => 0) 1), .int .i64 ((fun _ => 0) 2), .int .i64 ((fun _ => 0) 3), .int .i64 ((fun _ => 0) 4)] 97 (0, 0)) ∧ wr.heap[w.heap.size + 1 + 1 + 1]? = some (.cells #[.int .i64 (cutT p k T 0), .int .i64 (cutT p k T 1), .int .i64 (cutT p k T 2), .int .i64 (cutT p k T 3), .int .i64 (cutT p k T 4)] 97 (0, 0)) ∧ Below w.heap.size w wr ∧
        Hid (∀ g, k ≤ g → g < m.length → T g ≠ at5 p g → T g = at5 m g - 1)) (fun f _ => (intOf f + 1).toNat)
      case atStart =>
        have hS := HS2.out
        have hcut : ∀ i, cutT p m.length T i = T i := fun i => by
          unfold cutT
          split
          · rename_i h; rw [hS.st.out i h, at5_out (by have := HPL.out; omega)]
          · rfl
        refine ⟨m.length, Nat.le_refl _, .inr ⟨m.length - 1, by omega, by go_num⟩, hS.h0, hS.h1, hS.h2, by simp only [hcut]; exact hS.h3, hS.hb, fun g h1 h2 => by omega⟩
      case round =>
        obtain ⟨k, hk, hf, e0, e1, e2, e3, hB, hA⟩ := hrel
        have hsB := hB.size
        have hs3 : w.heap.size + 1 + 1 + 1 < wr.heap.size := (Array.getElem?_eq_some_iff.1 e3).1
        rcases hf with ⟨hk0, rfl⟩ | ⟨q, hkq, rfl⟩
        · obtain ⟨r0, r1, r2, r3, r4⟩ := cells5' (P := fun _ => 0) e2
          have f0 := frozen5 e2 0
          have f1 := frozen5 e2 1
          have f2 := frozen5 e2 2
          have f3 := frozen5 e2 3
          have f4 := frozen5 e2 4
          have E2 := Lib.hid e2
          clear e0 e1 e2 e3
          go_wp2
          obtain ⟨W, hWe, hW, hbW⟩ := set5b (n := w.heap.size) hB (by omega) (by rfl) E2.out (.int .i64 0) (.int .i64 0) (.int .i64 0) (.int .i64 0) (.int .i64 0)
          rw [← hWe]
          have hct := none_ok HOK.out HSr.out.st HSr.out.iv HOB.out HOP.out HF.out (fun g hg hne => hA.out g (by omega) hg hne)
          have hRV : RV = .tuple #[.agg #[.int .i64 ((fun _ => 0) 0), .int .i64 ((fun _ => 0) 1), .int .i64 ((fun _ => 0) 2), .int .i64 ((fun _ => 0) 3), .int .i64 ((fun _ => 0) 4)], .bool false] := by
            rw [HRV.out, hct]; rfl
          simp only [Exit.jump]
          exact bodyPost_ret (v := RV) (by rw [hRV]; exact results_cell_row_tmp Try.results136 _ _ _ _ _ (0, 0) 5 _ rfl hW undPat infoPat1) rfl ⟨rfl, hbW⟩
        · have hqm : q < m.length := by omega
          have hq5 : q < 5 := by omega
          have hi3 := idxAt5 (w.heap.size + 1 + 1 + 1) hq5
          have hi1 := idxAt5 (w.heap.size + 1) hq5
          have hcT : wr.cell? ⟨w.heap.size + 1 + 1 + 1, q, none⟩ = some (.int .i64 (T q)) := by
            rw [cell5 e3 hq5]; unfold cutT; rw [if_neg (by omega)]
          have hfT := frozen5 e3 q
          have hcP := cell5 e1 hq5
          have hcM := cell_of_row _ _ 0 _ _ _ e0
          simp at hcM
          obtain ⟨bm, om, hma, _, _, y, hy, hym⟩ := (hm.below hB hhi) q hqm
          have hym : wr.cell? ⟨bm, om + q, none⟩ = some (.int .i64 y) := hym
          have hidm := idxI hma hqm c
          have hyv : at5 m q = y := at5_of hy
          have hTb := HSr.out.st.lev q hqm
          have hT2 := HSr.out.st.lev5 HOK.out q hq5
          have hyb := okM_at HOK.out hy
          rw [hyv] at hTb
          have E0 := Lib.hid e0; have E1 := Lib.hid e1; have E2 := Lib.hid e2; have E3 := Lib.hid e3; have HYV := Lib.hid hyv; have HKQ := Lib.hid hkq
          clear e0 e1 e2 e3 hma hm hy hyv
          by_cases hTP : T q = at5 p q
          · have hcc : (T q == at5 p q) = true := by rw [hTP]; exact beq_self_eq_true _
            have HTP := Lib.hid hTP
            clear hTP
            have hcut : ∀ i, cutT p q T i = cutT p k T i := fun i => by
              unfold cutT
              by_cases h1 : i = q
              · subst h1; rw [if_pos (Nat.le_refl _), if_neg (by omega)]; exact HTP.out.symm
              · by_cases h2 : q ≤ i
                · rw [if_pos h2, if_pos (by omega)]
                · rw [if_neg h2, if_neg (by omega)]
            replace hcut := Lib.hid hcut
            go_wp2_with fail
            go_quiet (fail)
            go_wp2
            go_roundw
            case rel =>
              refine ⟨q, by omega, ?_, E0.out, E1.out, E2.out, by simp only [hcut.out]; exact E3.out, hB.trans (Dr.below (Dr.drewN (Dr.refl wr) _) _), fun g h1 h2 h3 => ?_⟩
              · cases q with
                | zero => exact .inl ⟨rfl, by go_num⟩
                | succ q => exact .inr ⟨q, rfl, by go_num⟩
              · by_cases h4 : g = q
                · subst h4; exact absurd HTP.out h3
                · exact hA.out g (by omega) h2 h3
            case measure => simp [intOf]
          · have hcc : (T q == at5 p q) = false := beq_eq_false_iff_ne.2 hTP
            have HTP := Lib.hid hTP
            clear hTP
            by_cases hlt : T q + 1 < y
            · have HLT := Lib.hid hlt
              go_wp2_with fail
              go_quiet (fail)
              go_wp2_with fail
              go_quiet (fail)
              go_wp2
              go_step3
              have hW3 : ∀ N : Nat, Srch m p b a c v w ((wr.drewN N).setCell ⟨w.heap.size + 1 + 1 + 1, q, none⟩ (.int .i64 (T q + 1))) (upT (cutT p (q + 1) T) q (T q + 1)) := fun N => by
                have hbk := back_ok (f := q) HSr.out.st HSr.out.iv HOB.out hml.2 HOP.out HF.out hqm (fun g h1 h2 h3 => hA.out g (by omega) h2 h3) HTP.out (by rw [HYV.out]; exact HLT.out)
                have e3 : (wr.drewN N).heap[w.heap.size + 1 + 1 + 1]? = some (.cells #[.int .i64 (cutT p (q + 1) T 0), .int .i64 (cutT p (q + 1) T 1), .int .i64 (cutT p (q + 1) T 2), .int .i64 (cutT p (q + 1) T 3), .int .i64 (cutT p (q + 1) T 4)] 97 (0, 0)) := by have := E3.out; rw [HKQ.out] at this; exact this
                exact ⟨(Below.heap_setCell _ _ _ _ (by simp; omega)).trans E0.out, (Below.heap_setCell _ _ _ _ (by simp)).trans E1.out, (Below.heap_setCell _ _ _ _ (by simp)).trans E2.out, setT e3 hq5 _, (hB.trans (Dr.below (Dr.drewN (Dr.refl wr) _) _)).setCell (by simp; omega) _, hbk.1, hbk.2⟩
              change 0 = 0 ∧ (SrJ m p b a c v w _ _ ∧ _)
              refine ⟨rfl, ⟨_, _, _, _, _, _, _, _, _, _, _, _, _, _, _, _, _, _, _, _, _, _, _, _, _, _, _, _, _, _, _, _, _, _, _, _, _, _, _, _, _, _, _, _, _, _, _, _, rfl, hW3 _⟩, ?_⟩
              show leftT _ _ < leftT _ _
              rw [leftT_eq (hW3 _).h3, leftT_eq HSr.out.h3]
              have h1 := code_lt (HSr.out.st.lev5 HOK.out) ((hW3 0).st.lev5 HOK.out) (lx_back (p := p) hq5 (by omega))
              have h2 := code_le ((hW3 0).st.lev5 HOK.out)
              omega
            · have HLT := Lib.hid hlt
              go_wp2_with fail
              go_quiet (fail)
              go_wp2_with fail
              go_quiet (fail)
              go_wp2
              go_roundw
              case rel =>
                have hpq : at5 p q = -1 := Classical.byContradiction fun h => HTP.out (HSr.out.st.fix q hqm h)
                have e3 : ∀ N, (wr.drewN N).heap[w.heap.size + 1 + 1 + 1]? = some (.cells #[.int .i64 (cutT p (q + 1) T 0), .int .i64 (cutT p (q + 1) T 1), .int .i64 (cutT p (q + 1) T 2), .int .i64 (cutT p (q + 1) T 3), .int .i64 (cutT p (q + 1) T 4)] 97 (0, 0)) := fun N => by have := E3.out; rw [HKQ.out] at this; exact this
                have hcut : ∀ i, cutT p q T i = upT (cutT p (q + 1) T) q (-1) i := fun i => by
                  unfold cutT upT
                  by_cases h1 : i = q
                  · subst h1; rw [if_pos (Nat.le_refl _), if_pos rfl]; exact hpq
                  · rw [if_neg h1]
                    by_cases h2 : q ≤ i
                    · rw [if_pos h2]; exact (if_pos (by omega)).symm
                    · rw [if_neg h2]; exact (if_neg (by omega)).symm
                refine ⟨q, by omega, ?_, (Below.heap_setCell _ _ _ _ (by simp; omega)).trans E0.out, (Below.heap_setCell _ _ _ _ (by simp)).trans E1.out, (Below.heap_setCell _ _ _ _ (by simp)).trans E2.out, by simp only [hcut]; exact setT (e3 _) hq5 _, (hB.trans (Dr.below (Dr.drewN (Dr.refl wr) _) _)).setCell (by simp; omega) _, fun g h1 h2 h3 => ?_⟩
                · cases q with
                  | zero => exact .inl ⟨rfl, by go_num⟩
                  | succ q => exact .inr ⟨q, rfl, by go_num⟩
                · by_cases h4 : g = q
                  · subst h4; rw [HYV.out]; have := HLT.out; omega
                  · exact hA.out g (by omega) h2 h3
              case measure => simp [intOf]
  · intro hp
    replace hp := Lib.hid hp
    go_wp2
    go_step3
    refine ‹∀ (a : Act) (w : World), _ → _› _ _ ?_
    exact hp.out _ _ ⟨at5 p, _, _, _, _, _, _, _, _, _, _, _, _, _, _, _, _, _, _, _, _, _, _, _, _, _, _, _, _, _, _, _, _, _, _, _, _, _, _, _, _, _, _, _, _, _, _, _, rfl, HS0.out⟩

end Go.Proofs.Ytehoagbpgahopaa
