/- Walks: suites with results that are drawn (DrawSuspectsOf, DrawCulpritsOf). -/
import Derived.Test.YtehoagbpgahopaaRl
import Derived.Test.YtehoagbpgahopaaZp
import Derived.Test.YtehoagbpgahopaaZa
import Derived.Test.YtehoagbpgahopaaVq
namespace Go.Proofs.Ytehoagbpgahopaa
open Go.RowKit

theorem results_tmp4q {fn : Func} {t u v x : Tmp} (h : fn.results = #[.tmp t, .tmp u, .tmp v, .tmp x]) (tmps : Array Value) (P : Program) (w : World) :
    (results fn tmps).run P w = .ok (.tuple #[tmps.getD t undef, tmps.getD u undef, tmps.getD v undef, tmps.getD x undef]) w := by
  simp [results, h]
/-- a model, a suite, results and a strength that were drawn -/
def DrQ (w : World) (e : Ending) (w' : World) : Prop := ∃ (a1 : Option Addr) (c1 : Nat) (m : List Int) (a2 : Option Addr) (c2 : Nat) (s : List (List Int)) (a3 : Option Addr) (c3 : Nat) (f : List Bool) (t : Int), e = .returned (.tuple #[.slice a1 m.length c1, .slice a2 s.length c2, .slice a3 f.length c3, .int .i64 t]) ∧ (Got w w' 10 a1 c1 m ∧ GotS w w' 12 a2 c2 s ∧ RBo w' w.heap.size w'.heap.size a3 f ∧ f.length ≤ 64 ∧ -4 ≤ t ∧ t ≤ 6) ∧ Below w.heap.size w w'
theorem OwnBo.same {w w' : World} {B : Nat} {v : Value} {l : List Bool} (h : OwnBo w B v l) (hb : ∀ g, B ≤ g → g < w.heap.size → w'.heap[g]? = w.heap[g]?) : OwnBo w' B v l := by
  have hlt := World.ownsRow.lt h
  obtain ⟨h1, h2⟩ := h
  refine ⟨h1, ?_⟩
  rcases h2 with h2 | ⟨g, cap, cur, rfl, hB, hg, rest⟩
  · exact .inl h2
  · exact .inr ⟨g, cap, cur, rfl, hB, by rw [hb g (hlt g rfl).1 (hlt g rfl).2]; exact hg, rest⟩
theorem OwnBo.lt {w : World} {B : Nat} {v : Value} {l : List Bool} (h : OwnBo w B v l) : ∀ g, v.ownBlock = some g → B ≤ g ∧ g < w.heap.size := World.ownsRow.lt h
/-- append of a bool, which says what turned -/
theorem wpList_app1Bg {wr : World} {ops : Array Oper} {rest : List Oper} {o : Oper} {a : Act} {Q : Exit → Act → World → Prop} (hgd : o.guard = none) (s t : Operand)
    (ho : o.op = .call { callee := .builtin .append, args := #[s, t], argTypes := #[70, 70] }) (B : Nat) (v : Value) (l : List Bool) (hs : a.eval s = v) (hown : OwnBo wr B v l) (x : Bool)
    (hx : a.eval t = .slice (some ⟨wr.heap.size, 0, none⟩) 1 1) (hl : l.length ≤ 1099511627776) (hB : B ≤ wr.heap.size)
    (h : ∀ v' w', OwnBo w' B v' (l ++ [x]) → Below B wr w' → (∀ g, g < wr.heap.size → v.ownBlock ≠ some g → w'.heap[g]? = wr.heap[g]?) → (∀ g, v'.ownBlock = some g → v.ownBlock = some g ∨ wr.heap.size ≤ g) → wpList Try.prog ops Q rest (a.put o.dst v') w') : wpList Try.prog ops Q (o :: rest) a (wr.alloc (.cells #[.bool x] 4)) := by
  obtain ⟨i0, hi, hz0, hz1, hz2⟩ := info_parts infoBool
  have hlt0 := World.ownsRow.lt hown
  obtain ⟨v', w', hr, g1, g2, g3, g4⟩ := run_append_own_at (P := Try.prog) (wr.alloc (.cells #[.bool x] 4)) B 70 o.type 4 i0 (.bool false) 1 1 undB hi hz0 hz1 hz2 rfl (by decide) v l.length (bols l) (World.ownsRow.alloc hown _) ⟨wr.heap.size, 0, none⟩ 1 1 [.bool x] rfl (cell_one_new _ _ _) (by intro u hu; simp at hu; subst hu; rfl) (by unfold maxLen; omega) (by omega) (by simp; omega)
  refine Lib.wpList_append_run _ hgd _ _ _ _ ho _ _ hs hx _ _ hr (h v' w' ?_ ?_ (fun g hg hn => (g2.block g (by simp; omega) fun e => hn e.symm).trans (Below.heap_alloc wr _ g hg)) (fun g hg => ?_))
  · unfold OwnBo; rw [bols_snoc, List.length_append]; exact g1
  · exact ((Below.refl B wr).alloc hB _).grown g2 (by simp; omega) fun k hk => (hlt0 k hk).1
  · rcases g4 with g4 | g4
    · left; rw [← g4]; exact hg
    · right; rw [g4] at hg; simp at hg; omega

set_option maxRecDepth 100000 in
set_option maxHeartbeats 16000000 in
theorem s_DrawSuspectsOf {n : Nat} {a : Option Addr} {c : Nat} {w : World} (hm : RB w w.heap.size a n) (hc : n ≤ c) (hl : n ≤ 1048576) :
    Calls Try.prog 94 #[.slice a n c] w (DrQ w) := by
  go_enter Try.func94, Try.ntmps94
  go_wp2_with fail
  refine (s_newReader hm hc hl).mono ?_
  rintro e w1 ⟨rfl, hr1, hb1⟩
  have hlt := hr1.lt
  go_wp2_with fail
  refine (s_goodModel hr1 (by omega)).mono ?_
  rintro e w2 ⟨a2, c2, m2, rfl, ho2, hL2, hr2, hU2⟩
  go_wp2_with fail
  refine (s_bentModel hr2 (by omega) ho2 rfl hL2 (by omega) hlt hU2.size).mono ?_
  rintro e w3 ⟨a3, c3, m, rfl, ho3, hL3, hr3, hU3⟩
  have hU := hU2.trans hU3
  have hcap := ho3.cap.2
  have hs3 := hU.size
  clear ho2 hL2 hr2 hU2 hU3 hr1
  go_wp2_with fail
  refine (s_someSuite hr3 ho3 rfl hlt hs3 hL3 (by omega) (by omega)).mono ?_
  rintro e w4 ⟨a4, c4, s, rfl, ho4, hS4, hr4, hm4, hU4⟩
  have hs4 := hU4.size
  obtain ⟨a5, c5, e5, hR⟩ := ho4.riic
  cases e5
  have hUU := hU.trans hU4
  have HL3 := Lib.hid hL3
  have HS4 := Lib.hid hS4
  have hl10 := hL3.1
  have hsl := hS4.1
  have HLM : Hid (LP m.length m) := ⟨Nat.le_refl _, hL3.2⟩
  clear ho3 hr3 hU hU4 ho4 hL3 hS4
  go_wp2_with fail
  have hbA := (Below.refl w4.heap.size w4).alloc (Nat.le_refl _) (.cells #[] 4)
  have hof := OwnBo.made w4 w4.heap.size (Nat.le_refl _)
  have hzA : (w4.alloc (.cells #[] 4)).heap.size = w4.heap.size + 1 := by simp
  obtain ⟨WA, hWA⟩ : ∃ W, w4.alloc (.cells #[] 4) = W := ⟨_, rfl⟩
  rw [hWA] at hbA hof hzA ⊢
  clear hWA
  have hlt4 := hr4.lt
  have hrA := hr4.below hbA hlt4
  have hmA := hm4.below hbA (Nat.le_refl _)
  have hRA := hR.below hbA (Nat.le_refl _)
  have hUA := hUU.below hbA (by omega)
  clear hr4 hm4 hR hUU hbA
  refine (s_aBans hrA hmA (by omega) hlt HLM.out (by omega) (by omega)).mono ?_
  rintro e w5 ⟨a6, c6, F, rfl, ho5, hF5, hr5, hU5⟩
  have hs5 := hU5.size
  have hm5 := hmA.upB hU5 (by omega) (by omega) hlt
  have hR5 : RIIc w5 w3.heap.size w4.heap.size a4 c4 s := ⟨hRA.rii.same fun k h1 h2 => hU5.block k (by omega) (by omega) (by omega), hRA.cap⟩
  have hof5 : OwnBo w5 w4.heap.size (.slice (some ⟨w4.heap.size, 0, none⟩) 0 0) [] := hof.same fun g h1 h2 => hU5.block g h2 h2 (by omega)
  have hUU5 := hUA.trans (hU5.less (by omega))
  have hFl := hF5.1
  have HFR : Hid (∀ r ∈ F, r.length ≤ m.length) := fun r hr => (hF5.2 r hr).1
  obtain ⟨a7, c7, e7, hF⟩ := ho5.riic
  cases e7
  clear hrA hmA hRA hUA hof hF5 ho5 hU5
  go_wp2_with fail
  refine (s_pick hr5 (by omega) (by omega) (by omega)).mono ?_
  rintro e w6 ⟨v, rfl, hv, hr6, hu6⟩
  have hs6 := hu6.size
  have hm6 := hm5.upd hu6 (by omega) (.inr (by omega))
  have hR6 := hR5.upd hu6 (by omega) (.inr (by omega))
  have hF6 := hF.upd hu6 (by omega) (.inr (by omega))
  have hof6 : OwnBo w6 w4.heap.size (.slice (some ⟨w4.heap.size, 0, none⟩) 0 0) [] := hof5.same fun g h1 h2 => hu6.block g h2 (by omega)
  have hUU6 := hUU5.upd hu6
  have hr6 := hr6.mono (show _ ≤ 5000 by omega)
  clear hm5 hR5 hF hof5 hUU5 hr5 hu6 hv
  by_cases e0 : v = 0
  case neg =>
    have hvne : (v == 0) = false := by rw [beq_eq_false_iff_ne]; exact e0
    have hG6 := hF6.rii
    have HGR := HFR
    clear hF6
    have H00 : Hid (∀ g, Value.ownBlock (.slice (some ⟨w4.heap.size, 0, none⟩) 0 0) = some g → g < WA.heap.size ∨ w5.heap.size ≤ g) := fun g hg => by simp [Value.ownBlock] at hg; omega
    go_wp2
    go_loopw [9, 11, 12] (fun fv i _ wr => ∃ (k : Nat) (f : List Bool), k ≤ s.length ∧ i = .int .i64 k ∧ f.length ≤ k ∧ OwnBo wr w4.heap.size fv f ∧ Hid (∀ g, fv.ownBlock = some g → g < WA.heap.size ∨ w5.heap.size ≤ g) ∧ Rdr wr w.heap.size (5000 + k) ∧ RI wr w1.heap.size w4.heap.size a3 m ∧ RIIc wr w3.heap.size w4.heap.size a4 c4 s ∧ RII wr WA.heap.size w5.heap.size a6 F ∧ UpB w.heap.size w1.heap.size w1 wr ∧ w5.heap.size ≤ wr.heap.size) (fun _ i _ _ => s.length - (intOf i).toNat)
    case atStart => exact ⟨0, [], Nat.zero_le _, rfl, Nat.le_refl _, hof6, H00, hr6, hm6, hR6, hG6, hUU6, by omega⟩
    case round =>
      clear hof6 H00 hr6 hm6 hR6 hG6 hUU6
      obtain ⟨k, f, hk, rfl, hfk, hof, HOB, hr, hm, hR, hG, hUU, hzr⟩ := hrel
      have hltr := hr.lt
      by_cases hlt2 : k < s.length
      case pos =>
        obtain ⟨b5, o5, a8, c8, r, ha5, _, hb5, hc5, hrr, hx5⟩ := hR.rii.at hlt2
        have hidx5 := idxII ha5 hlt2 c4
        clear ha5
        by_cases hlen : r.length = m.length
        case neg =>
          have hle : ((r.length : Int) == (m.length : Int)) = false := by rw [beq_eq_false_iff_ne]; omega
          clear hx5
          go_wp2_with fail
          refine (s_pick hr (by omega) (by omega) (by omega)).mono ?_
          rintro e w9 ⟨u, rfl, hu, hr9, hu9⟩
          have hs9 := hu9.size
          have hm9 := hm.upd hu9 (by omega) (.inr (by omega))
          have hR9 := hR.upd hu9 (by omega) (.inr (by omega))
          have hG9 := hG.upd hu9 (by omega) (.inr (by omega))
          have hof9 := hof.same (w' := w9) fun g h1 h2 => hu9.block g h2 (by omega)
          have hUU9 := hUU.upd hu9
          clear hm hR hG hof hUU hr hu9 hu
          by_cases hu0 : u = 0
          · subst hu0
            go_wp2_with (first | (at_builtin; refine wpList_app1Bg rfl (.tmp 62) (.tmp 64) (by rfl) w4.heap.size _ f (by rfl) hof9 true (by rfl) (by omega) (by omega) ?_; intro v7 w7 hof7 hb7 hk7 ho7) | go_in)
            have hs7 := hb7.size
            have HOB7 : Hid (∀ g, v7.ownBlock = some g → g < WA.heap.size ∨ w5.heap.size ≤ g) := fun g hg => by
              rcases ho7 g hg with h | h
              · exact HOB.out g h
              · right; omega
            have hr7 := (hr9.below hb7 (by omega)).mono (show _ ≤ 5000 + (k + 1) by omega)
            have hm7 := hm9.below hb7 (by omega)
            have hR7 := hR9.below hb7 (by omega)
            have hG7 := hG9.same fun g h1 h2 => hk7 g (by omega) (fun e => by have := HOB.out g e; omega)
            have hUU7 := hUU9.below hb7 (by omega)
            clear hof9 HOB hr9 hm9 hR9 hG9 hUU9 hb7 hk7 ho7
            go_roundw
            case rel => exact ⟨k + 1, f ++ [true], by omega, by go_num, by rw [List.length_append]; simp; omega, hof7, HOB7, hr7, hm7, hR7, hG7, hUU7, by omega⟩
            case measure => simp [intOf]; omega
          · have hune : (u == 0) = false := by rw [beq_eq_false_iff_ne]; exact hu0
            go_wp2_with (first | (at_builtin; refine wpList_app1Bg rfl (.tmp 62) (.tmp 64) (by rfl) w4.heap.size _ f (by rfl) hof9 false (by rfl) (by omega) (by omega) ?_; intro v7 w7 hof7 hb7 hk7 ho7) | go_in)
            have hs7 := hb7.size
            have HOB7 : Hid (∀ g, v7.ownBlock = some g → g < WA.heap.size ∨ w5.heap.size ≤ g) := fun g hg => by
              rcases ho7 g hg with h | h
              · exact HOB.out g h
              · right; omega
            have hr7 := (hr9.below hb7 (by omega)).mono (show _ ≤ 5000 + (k + 1) by omega)
            have hm7 := hm9.below hb7 (by omega)
            have hR7 := hR9.below hb7 (by omega)
            have hG7 := hG9.same fun g h1 h2 => hk7 g (by omega) (fun e => by have := HOB.out g e; omega)
            have hUU7 := hUU9.below hb7 (by omega)
            clear hof9 HOB hr9 hm9 hR9 hG9 hUU9 hb7 hk7 ho7
            go_roundw
            case rel => exact ⟨k + 1, f ++ [false], by omega, by go_num, by rw [List.length_append]; simp; omega, hof7, HOB7, hr7, hm7, hR7, hG7, hUU7, by omega⟩
            case measure => simp [intOf]; omega
        have hle : ((r.length : Int) == (m.length : Int)) = true := by rw [beq_iff_eq]; omega
        have HGL : Hid (∀ q ∈ F, q.length ≤ r.length) := fun q hq => by rw [hlen]; exact HGR.out q hq
        have hr12 : r.length ≤ 12 := by omega
        have HLN := Lib.hid hlen
        clear hlen hx5
        obtain ⟨y, hy⟩ : ∃ y, bnB F r = y := ⟨_, rfl⟩
        have HY := Lib.hid hy; clear hy
        go_wp2_with fail
        refine (s_allowed hG hrr (by omega) HGL.out (by omega)).mono ?_
        rintro e w8 ⟨rfl, d8⟩
        rw [HY.out]
        have hz8 := Dr.le d8
        have b8 := Dr.below d8 wr.heap.size
        have hr := hr.below b8 hltr
        have hm := hm.below b8 (by omega)
        have hR := hR.below b8 (by omega)
        have hG := hG.below b8 (by omega)
        have hof := hof.same (w' := w8) fun g h1 h2 => b8.block g h2
        have hUU := hUU.below b8 (by omega)
        clear b8 d8 hrr hc5 hidx5
        cases y
        · skip
          go_wp2_with fail
          refine (s_pick hr (by omega) (by omega) (by omega)).mono ?_
          rintro e w9 ⟨u, rfl, hu, hr9, hu9⟩
          have hs9 := hu9.size
          have hm9 := hm.upd hu9 (by omega) (.inr (by omega))
          have hR9 := hR.upd hu9 (by omega) (.inr (by omega))
          have hG9 := hG.upd hu9 (by omega) (.inr (by omega))
          have hof9 := hof.same (w' := w9) fun g h1 h2 => hu9.block g h2 (by omega)
          have hUU9 := hUU.upd hu9
          clear hm hR hG hof hUU hr hu9 hu
          by_cases hu0 : u = 0
          · subst hu0
            go_wp2_with (first | (at_builtin; refine wpList_app1Bg rfl (.tmp 62) (.tmp 64) (by rfl) w4.heap.size _ f (by rfl) hof9 true (by rfl) (by omega) (by omega) ?_; intro v7 w7 hof7 hb7 hk7 ho7) | go_in)
            have hs7 := hb7.size
            have HOB7 : Hid (∀ g, v7.ownBlock = some g → g < WA.heap.size ∨ w5.heap.size ≤ g) := fun g hg => by
              rcases ho7 g hg with h | h
              · exact HOB.out g h
              · right; omega
            have hr7 := (hr9.below hb7 (by omega)).mono (show _ ≤ 5000 + (k + 1) by omega)
            have hm7 := hm9.below hb7 (by omega)
            have hR7 := hR9.below hb7 (by omega)
            have hG7 := hG9.same fun g h1 h2 => hk7 g (by omega) (fun e => by have := HOB.out g e; omega)
            have hUU7 := hUU9.below hb7 (by omega)
            clear hof9 HOB hr9 hm9 hR9 hG9 hUU9 hb7 hk7 ho7
            go_roundw
            case rel => exact ⟨k + 1, f ++ [true], by omega, by go_num, by rw [List.length_append]; simp; omega, hof7, HOB7, hr7, hm7, hR7, hG7, hUU7, by omega⟩
            case measure => simp [intOf]; omega
          · have hune : (u == 0) = false := by rw [beq_eq_false_iff_ne]; exact hu0
            go_wp2_with (first | (at_builtin; refine wpList_app1Bg rfl (.tmp 62) (.tmp 64) (by rfl) w4.heap.size _ f (by rfl) hof9 false (by rfl) (by omega) (by omega) ?_; intro v7 w7 hof7 hb7 hk7 ho7) | go_in)
            have hs7 := hb7.size
            have HOB7 : Hid (∀ g, v7.ownBlock = some g → g < WA.heap.size ∨ w5.heap.size ≤ g) := fun g hg => by
              rcases ho7 g hg with h | h
              · exact HOB.out g h
              · right; omega
            have hr7 := (hr9.below hb7 (by omega)).mono (show _ ≤ 5000 + (k + 1) by omega)
            have hm7 := hm9.below hb7 (by omega)
            have hR7 := hR9.below hb7 (by omega)
            have hG7 := hG9.same fun g h1 h2 => hk7 g (by omega) (fun e => by have := HOB.out g e; omega)
            have hUU7 := hUU9.below hb7 (by omega)
            clear hof9 HOB hr9 hm9 hR9 hG9 hUU9 hb7 hk7 ho7
            go_roundw
            case rel => exact ⟨k + 1, f ++ [false], by omega, by go_num, by rw [List.length_append]; simp; omega, hof7, HOB7, hr7, hm7, hR7, hG7, hUU7, by omega⟩
            case measure => simp [intOf]; omega
        · skip
          go_wp2_with fail
          refine (s_pick hr (by omega) (by omega) (by omega)).mono ?_
          rintro e w9 ⟨u, rfl, hu, hr9, hu9⟩
          have hs9 := hu9.size
          have hm9 := hm.upd hu9 (by omega) (.inr (by omega))
          have hR9 := hR.upd hu9 (by omega) (.inr (by omega))
          have hG9 := hG.upd hu9 (by omega) (.inr (by omega))
          have hof9 := hof.same (w' := w9) fun g h1 h2 => hu9.block g h2 (by omega)
          have hUU9 := hUU.upd hu9
          clear hm hR hG hof hUU hr hu9 hu
          by_cases hu0 : u = 0
          · subst hu0
            go_wp2_with (first | (at_builtin; refine wpList_app1Bg rfl (.tmp 62) (.tmp 64) (by rfl) w4.heap.size _ f (by rfl) hof9 false (by rfl) (by omega) (by omega) ?_; intro v7 w7 hof7 hb7 hk7 ho7) | go_in)
            have hs7 := hb7.size
            have HOB7 : Hid (∀ g, v7.ownBlock = some g → g < WA.heap.size ∨ w5.heap.size ≤ g) := fun g hg => by
              rcases ho7 g hg with h | h
              · exact HOB.out g h
              · right; omega
            have hr7 := (hr9.below hb7 (by omega)).mono (show _ ≤ 5000 + (k + 1) by omega)
            have hm7 := hm9.below hb7 (by omega)
            have hR7 := hR9.below hb7 (by omega)
            have hG7 := hG9.same fun g h1 h2 => hk7 g (by omega) (fun e => by have := HOB.out g e; omega)
            have hUU7 := hUU9.below hb7 (by omega)
            clear hof9 HOB hr9 hm9 hR9 hG9 hUU9 hb7 hk7 ho7
            go_roundw
            case rel => exact ⟨k + 1, f ++ [false], by omega, by go_num, by rw [List.length_append]; simp; omega, hof7, HOB7, hr7, hm7, hR7, hG7, hUU7, by omega⟩
            case measure => simp [intOf]; omega
          · have hune : (u == 0) = false := by rw [beq_eq_false_iff_ne]; exact hu0
            go_wp2_with (first | (at_builtin; refine wpList_app1Bg rfl (.tmp 62) (.tmp 64) (by rfl) w4.heap.size _ f (by rfl) hof9 true (by rfl) (by omega) (by omega) ?_; intro v7 w7 hof7 hb7 hk7 ho7) | go_in)
            have hs7 := hb7.size
            have HOB7 : Hid (∀ g, v7.ownBlock = some g → g < WA.heap.size ∨ w5.heap.size ≤ g) := fun g hg => by
              rcases ho7 g hg with h | h
              · exact HOB.out g h
              · right; omega
            have hr7 := (hr9.below hb7 (by omega)).mono (show _ ≤ 5000 + (k + 1) by omega)
            have hm7 := hm9.below hb7 (by omega)
            have hR7 := hR9.below hb7 (by omega)
            have hG7 := hG9.same fun g h1 h2 => hk7 g (by omega) (fun e => by have := HOB.out g e; omega)
            have hUU7 := hUU9.below hb7 (by omega)
            clear hof9 HOB hr9 hm9 hR9 hG9 hUU9 hb7 hk7 ho7
            go_roundw
            case rel => exact ⟨k + 1, f ++ [true], by omega, by go_num, by rw [List.length_append]; simp; omega, hof7, HOB7, hr7, hm7, hR7, hG7, hUU7, by omega⟩
            case measure => simp [intOf]; omega
      case neg =>
        clear hG HOB
        go_wp2_with fail
        refine (s_pick hr (by omega) (by omega) (by omega)).mono ?_
        rintro e w9 ⟨u, rfl, hu, hr9, hu9⟩
        have hs9 := hu9.size
        have hm9 := hm.upd hu9 (by omega) (.inr (by omega))
        have hR9 := hR.upd hu9 (by omega) (.inr (by omega))
        have hof9 := hof.same (w' := w9) fun g h1 h2 => hu9.block g h2 (by omega)
        have hUU9 := hUU.upd hu9
        clear hm hR hof hUU hr hu9 hu
        by_cases hu0 : u = 0
        · subst hu0
          go_wp2_with (first | (at_builtin; refine wpList_app1Bg rfl (.tmp 69) (.tmp 70) (by rfl) w4.heap.size _ f (by rfl) hof9 true (by rfl) (by omega) (by omega) ?_; intro v7 w7 hof7 hb7 _ _) | fail)
          have hs7 := hb7.size
          have hr9 := hr9.below hb7 (by omega)
          have hm9 := hm9.below hb7 (by omega)
          have hR9 := hR9.below hb7 (by omega)
          have hUU9 := hUU9.below hb7 (by omega)
          have hof9 := hof7
          clear hof7 hb7
          obtain ⟨f9, hf9⟩ : ∃ x, f ++ [true] = x := ⟨_, rfl⟩
          have hl9 : f9.length ≤ 64 := by rw [← hf9, List.length_append]; simp; omega
          rw [hf9] at hof9
          clear hf9
          obtain ⟨fa, fc, rfl, hfo⟩ := hof9.slice
          try go_wp2_with fail
          refine (s_aStrength hr9 (by omega)).mono ?_
          rintro e w10 ⟨t, rfl, ht, hr10, hU10⟩
          have hs10 := hU10.size
          have hm10 := hm9.upB hU10 (by omega) (by omega) hlt
          have hR10 : RIIc w10 w3.heap.size w4.heap.size a4 c4 s := ⟨hR9.rii.same fun k h1 h2 => hU10.block k (by omega) (by omega) (by omega), hR9.cap⟩
          have hf10 := hfo.ri.same (w' := w10) fun k h1 h2 => hU10.block k (by omega) (by omega) (by omega)
          have hUe := hUU9.trans (hU10.less (by omega))
          clear hm9 hR9 hfo hUU9 hU10 hr9 hr10
          go_wp2
          (try simp only [Exit.inBlock, Exit.then])
          refine bodyPost_ret (results_tmp4q rfl _ _ _) rfl ?_
          exact ⟨_, _, m, _, _, s, _, _, _, t, rfl, ⟨⟨hm10.wide (by omega) (by omega), HL3.out, hcap⟩, ⟨hR10.wide (by omega) (by omega), HS4.out⟩, hf10.wide (by omega) (by omega), hl9, ht.1, ht.2⟩, hb1.trans (hUe.toBelow (by omega) (by omega))⟩
        · have hune : (u == 0) = false := by rw [beq_eq_false_iff_ne]; exact hu0
          have hl9 : f.length ≤ 64 := by omega
          obtain ⟨fa, fc, rfl, hfo⟩ := hof9.slice
          try go_wp2_with fail
          refine (s_aStrength hr9 (by omega)).mono ?_
          rintro e w10 ⟨t, rfl, ht, hr10, hU10⟩
          have hs10 := hU10.size
          have hm10 := hm9.upB hU10 (by omega) (by omega) hlt
          have hR10 : RIIc w10 w3.heap.size w4.heap.size a4 c4 s := ⟨hR9.rii.same fun k h1 h2 => hU10.block k (by omega) (by omega) (by omega), hR9.cap⟩
          have hf10 := hfo.ri.same (w' := w10) fun k h1 h2 => hU10.block k (by omega) (by omega) (by omega)
          have hUe := hUU9.trans (hU10.less (by omega))
          clear hm9 hR9 hfo hUU9 hU10 hr9 hr10
          go_wp2
          (try simp only [Exit.inBlock, Exit.then])
          refine bodyPost_ret (results_tmp4q rfl _ _ _) rfl ?_
          exact ⟨_, _, m, _, _, s, _, _, _, t, rfl, ⟨⟨hm10.wide (by omega) (by omega), HL3.out, hcap⟩, ⟨hR10.wide (by omega) (by omega), HS4.out⟩, hf10.wide (by omega) (by omega), hl9, ht.1, ht.2⟩, hb1.trans (hUe.toBelow (by omega) (by omega))⟩
  subst e0
  by_cases e1 : 1 < F.length
  case neg =>
    have hd1 : decide ((1 : Int) < (F.length : Int)) = false := decide_eq_false (by omega)
    have hG6 := hF6.rii
    have HGR := HFR
    clear hF6
    have H00 : Hid (∀ g, Value.ownBlock (.slice (some ⟨w4.heap.size, 0, none⟩) 0 0) = some g → g < WA.heap.size ∨ w5.heap.size ≤ g) := fun g hg => by simp [Value.ownBlock] at hg; omega
    go_wp2
    go_loopw [9, 11, 12] (fun fv i _ wr => ∃ (k : Nat) (f : List Bool), k ≤ s.length ∧ i = .int .i64 k ∧ f.length ≤ k ∧ OwnBo wr w4.heap.size fv f ∧ Hid (∀ g, fv.ownBlock = some g → g < WA.heap.size ∨ w5.heap.size ≤ g) ∧ Rdr wr w.heap.size (5000 + k) ∧ RI wr w1.heap.size w4.heap.size a3 m ∧ RIIc wr w3.heap.size w4.heap.size a4 c4 s ∧ RII wr WA.heap.size w5.heap.size a6 F ∧ UpB w.heap.size w1.heap.size w1 wr ∧ w5.heap.size ≤ wr.heap.size) (fun _ i _ _ => s.length - (intOf i).toNat)
    case atStart => exact ⟨0, [], Nat.zero_le _, rfl, Nat.le_refl _, hof6, H00, hr6, hm6, hR6, hG6, hUU6, by omega⟩
    case round =>
      clear hof6 H00 hr6 hm6 hR6 hG6 hUU6
      obtain ⟨k, f, hk, rfl, hfk, hof, HOB, hr, hm, hR, hG, hUU, hzr⟩ := hrel
      have hltr := hr.lt
      by_cases hlt2 : k < s.length
      case pos =>
        obtain ⟨b5, o5, a8, c8, r, ha5, _, hb5, hc5, hrr, hx5⟩ := hR.rii.at hlt2
        have hidx5 := idxII ha5 hlt2 c4
        clear ha5
        by_cases hlen : r.length = m.length
        case neg =>
          have hle : ((r.length : Int) == (m.length : Int)) = false := by rw [beq_eq_false_iff_ne]; omega
          clear hx5
          go_wp2_with fail
          refine (s_pick hr (by omega) (by omega) (by omega)).mono ?_
          rintro e w9 ⟨u, rfl, hu, hr9, hu9⟩
          have hs9 := hu9.size
          have hm9 := hm.upd hu9 (by omega) (.inr (by omega))
          have hR9 := hR.upd hu9 (by omega) (.inr (by omega))
          have hG9 := hG.upd hu9 (by omega) (.inr (by omega))
          have hof9 := hof.same (w' := w9) fun g h1 h2 => hu9.block g h2 (by omega)
          have hUU9 := hUU.upd hu9
          clear hm hR hG hof hUU hr hu9 hu
          by_cases hu0 : u = 0
          · subst hu0
            go_wp2_with (first | (at_builtin; refine wpList_app1Bg rfl (.tmp 62) (.tmp 64) (by rfl) w4.heap.size _ f (by rfl) hof9 true (by rfl) (by omega) (by omega) ?_; intro v7 w7 hof7 hb7 hk7 ho7) | go_in)
            have hs7 := hb7.size
            have HOB7 : Hid (∀ g, v7.ownBlock = some g → g < WA.heap.size ∨ w5.heap.size ≤ g) := fun g hg => by
              rcases ho7 g hg with h | h
              · exact HOB.out g h
              · right; omega
            have hr7 := (hr9.below hb7 (by omega)).mono (show _ ≤ 5000 + (k + 1) by omega)
            have hm7 := hm9.below hb7 (by omega)
            have hR7 := hR9.below hb7 (by omega)
            have hG7 := hG9.same fun g h1 h2 => hk7 g (by omega) (fun e => by have := HOB.out g e; omega)
            have hUU7 := hUU9.below hb7 (by omega)
            clear hof9 HOB hr9 hm9 hR9 hG9 hUU9 hb7 hk7 ho7
            go_roundw
            case rel => exact ⟨k + 1, f ++ [true], by omega, by go_num, by rw [List.length_append]; simp; omega, hof7, HOB7, hr7, hm7, hR7, hG7, hUU7, by omega⟩
            case measure => simp [intOf]; omega
          · have hune : (u == 0) = false := by rw [beq_eq_false_iff_ne]; exact hu0
            go_wp2_with (first | (at_builtin; refine wpList_app1Bg rfl (.tmp 62) (.tmp 64) (by rfl) w4.heap.size _ f (by rfl) hof9 false (by rfl) (by omega) (by omega) ?_; intro v7 w7 hof7 hb7 hk7 ho7) | go_in)
            have hs7 := hb7.size
            have HOB7 : Hid (∀ g, v7.ownBlock = some g → g < WA.heap.size ∨ w5.heap.size ≤ g) := fun g hg => by
              rcases ho7 g hg with h | h
              · exact HOB.out g h
              · right; omega
            have hr7 := (hr9.below hb7 (by omega)).mono (show _ ≤ 5000 + (k + 1) by omega)
            have hm7 := hm9.below hb7 (by omega)
            have hR7 := hR9.below hb7 (by omega)
            have hG7 := hG9.same fun g h1 h2 => hk7 g (by omega) (fun e => by have := HOB.out g e; omega)
            have hUU7 := hUU9.below hb7 (by omega)
            clear hof9 HOB hr9 hm9 hR9 hG9 hUU9 hb7 hk7 ho7
            go_roundw
            case rel => exact ⟨k + 1, f ++ [false], by omega, by go_num, by rw [List.length_append]; simp; omega, hof7, HOB7, hr7, hm7, hR7, hG7, hUU7, by omega⟩
            case measure => simp [intOf]; omega
        have hle : ((r.length : Int) == (m.length : Int)) = true := by rw [beq_iff_eq]; omega
        have HGL : Hid (∀ q ∈ F, q.length ≤ r.length) := fun q hq => by rw [hlen]; exact HGR.out q hq
        have hr12 : r.length ≤ 12 := by omega
        have HLN := Lib.hid hlen
        clear hlen hx5
        obtain ⟨y, hy⟩ : ∃ y, bnB F r = y := ⟨_, rfl⟩
        have HY := Lib.hid hy; clear hy
        go_wp2_with fail
        refine (s_allowed hG hrr (by omega) HGL.out (by omega)).mono ?_
        rintro e w8 ⟨rfl, d8⟩
        rw [HY.out]
        have hz8 := Dr.le d8
        have b8 := Dr.below d8 wr.heap.size
        have hr := hr.below b8 hltr
        have hm := hm.below b8 (by omega)
        have hR := hR.below b8 (by omega)
        have hG := hG.below b8 (by omega)
        have hof := hof.same (w' := w8) fun g h1 h2 => b8.block g h2
        have hUU := hUU.below b8 (by omega)
        clear b8 d8 hrr hc5 hidx5
        cases y
        · skip
          go_wp2_with fail
          refine (s_pick hr (by omega) (by omega) (by omega)).mono ?_
          rintro e w9 ⟨u, rfl, hu, hr9, hu9⟩
          have hs9 := hu9.size
          have hm9 := hm.upd hu9 (by omega) (.inr (by omega))
          have hR9 := hR.upd hu9 (by omega) (.inr (by omega))
          have hG9 := hG.upd hu9 (by omega) (.inr (by omega))
          have hof9 := hof.same (w' := w9) fun g h1 h2 => hu9.block g h2 (by omega)
          have hUU9 := hUU.upd hu9
          clear hm hR hG hof hUU hr hu9 hu
          by_cases hu0 : u = 0
          · subst hu0
            go_wp2_with (first | (at_builtin; refine wpList_app1Bg rfl (.tmp 62) (.tmp 64) (by rfl) w4.heap.size _ f (by rfl) hof9 true (by rfl) (by omega) (by omega) ?_; intro v7 w7 hof7 hb7 hk7 ho7) | go_in)
            have hs7 := hb7.size
            have HOB7 : Hid (∀ g, v7.ownBlock = some g → g < WA.heap.size ∨ w5.heap.size ≤ g) := fun g hg => by
              rcases ho7 g hg with h | h
              · exact HOB.out g h
              · right; omega
            have hr7 := (hr9.below hb7 (by omega)).mono (show _ ≤ 5000 + (k + 1) by omega)
            have hm7 := hm9.below hb7 (by omega)
            have hR7 := hR9.below hb7 (by omega)
            have hG7 := hG9.same fun g h1 h2 => hk7 g (by omega) (fun e => by have := HOB.out g e; omega)
            have hUU7 := hUU9.below hb7 (by omega)
            clear hof9 HOB hr9 hm9 hR9 hG9 hUU9 hb7 hk7 ho7
            go_roundw
            case rel => exact ⟨k + 1, f ++ [true], by omega, by go_num, by rw [List.length_append]; simp; omega, hof7, HOB7, hr7, hm7, hR7, hG7, hUU7, by omega⟩
            case measure => simp [intOf]; omega
          · have hune : (u == 0) = false := by rw [beq_eq_false_iff_ne]; exact hu0
            go_wp2_with (first | (at_builtin; refine wpList_app1Bg rfl (.tmp 62) (.tmp 64) (by rfl) w4.heap.size _ f (by rfl) hof9 false (by rfl) (by omega) (by omega) ?_; intro v7 w7 hof7 hb7 hk7 ho7) | go_in)
            have hs7 := hb7.size
            have HOB7 : Hid (∀ g, v7.ownBlock = some g → g < WA.heap.size ∨ w5.heap.size ≤ g) := fun g hg => by
              rcases ho7 g hg with h | h
              · exact HOB.out g h
              · right; omega
            have hr7 := (hr9.below hb7 (by omega)).mono (show _ ≤ 5000 + (k + 1) by omega)
            have hm7 := hm9.below hb7 (by omega)
            have hR7 := hR9.below hb7 (by omega)
            have hG7 := hG9.same fun g h1 h2 => hk7 g (by omega) (fun e => by have := HOB.out g e; omega)
            have hUU7 := hUU9.below hb7 (by omega)
            clear hof9 HOB hr9 hm9 hR9 hG9 hUU9 hb7 hk7 ho7
            go_roundw
            case rel => exact ⟨k + 1, f ++ [false], by omega, by go_num, by rw [List.length_append]; simp; omega, hof7, HOB7, hr7, hm7, hR7, hG7, hUU7, by omega⟩
            case measure => simp [intOf]; omega
        · skip
          go_wp2_with fail
          refine (s_pick hr (by omega) (by omega) (by omega)).mono ?_
          rintro e w9 ⟨u, rfl, hu, hr9, hu9⟩
          have hs9 := hu9.size
          have hm9 := hm.upd hu9 (by omega) (.inr (by omega))
          have hR9 := hR.upd hu9 (by omega) (.inr (by omega))
          have hG9 := hG.upd hu9 (by omega) (.inr (by omega))
          have hof9 := hof.same (w' := w9) fun g h1 h2 => hu9.block g h2 (by omega)
          have hUU9 := hUU.upd hu9
          clear hm hR hG hof hUU hr hu9 hu
          by_cases hu0 : u = 0
          · subst hu0
            go_wp2_with (first | (at_builtin; refine wpList_app1Bg rfl (.tmp 62) (.tmp 64) (by rfl) w4.heap.size _ f (by rfl) hof9 false (by rfl) (by omega) (by omega) ?_; intro v7 w7 hof7 hb7 hk7 ho7) | go_in)
            have hs7 := hb7.size
            have HOB7 : Hid (∀ g, v7.ownBlock = some g → g < WA.heap.size ∨ w5.heap.size ≤ g) := fun g hg => by
              rcases ho7 g hg with h | h
              · exact HOB.out g h
              · right; omega
            have hr7 := (hr9.below hb7 (by omega)).mono (show _ ≤ 5000 + (k + 1) by omega)
            have hm7 := hm9.below hb7 (by omega)
            have hR7 := hR9.below hb7 (by omega)
            have hG7 := hG9.same fun g h1 h2 => hk7 g (by omega) (fun e => by have := HOB.out g e; omega)
            have hUU7 := hUU9.below hb7 (by omega)
            clear hof9 HOB hr9 hm9 hR9 hG9 hUU9 hb7 hk7 ho7
            go_roundw
            case rel => exact ⟨k + 1, f ++ [false], by omega, by go_num, by rw [List.length_append]; simp; omega, hof7, HOB7, hr7, hm7, hR7, hG7, hUU7, by omega⟩
            case measure => simp [intOf]; omega
          · have hune : (u == 0) = false := by rw [beq_eq_false_iff_ne]; exact hu0
            go_wp2_with (first | (at_builtin; refine wpList_app1Bg rfl (.tmp 62) (.tmp 64) (by rfl) w4.heap.size _ f (by rfl) hof9 true (by rfl) (by omega) (by omega) ?_; intro v7 w7 hof7 hb7 hk7 ho7) | go_in)
            have hs7 := hb7.size
            have HOB7 : Hid (∀ g, v7.ownBlock = some g → g < WA.heap.size ∨ w5.heap.size ≤ g) := fun g hg => by
              rcases ho7 g hg with h | h
              · exact HOB.out g h
              · right; omega
            have hr7 := (hr9.below hb7 (by omega)).mono (show _ ≤ 5000 + (k + 1) by omega)
            have hm7 := hm9.below hb7 (by omega)
            have hR7 := hR9.below hb7 (by omega)
            have hG7 := hG9.same fun g h1 h2 => hk7 g (by omega) (fun e => by have := HOB.out g e; omega)
            have hUU7 := hUU9.below hb7 (by omega)
            clear hof9 HOB hr9 hm9 hR9 hG9 hUU9 hb7 hk7 ho7
            go_roundw
            case rel => exact ⟨k + 1, f ++ [true], by omega, by go_num, by rw [List.length_append]; simp; omega, hof7, HOB7, hr7, hm7, hR7, hG7, hUU7, by omega⟩
            case measure => simp [intOf]; omega
      case neg =>
        clear hG HOB
        go_wp2_with fail
        refine (s_pick hr (by omega) (by omega) (by omega)).mono ?_
        rintro e w9 ⟨u, rfl, hu, hr9, hu9⟩
        have hs9 := hu9.size
        have hm9 := hm.upd hu9 (by omega) (.inr (by omega))
        have hR9 := hR.upd hu9 (by omega) (.inr (by omega))
        have hof9 := hof.same (w' := w9) fun g h1 h2 => hu9.block g h2 (by omega)
        have hUU9 := hUU.upd hu9
        clear hm hR hof hUU hr hu9 hu
        by_cases hu0 : u = 0
        · subst hu0
          go_wp2_with (first | (at_builtin; refine wpList_app1Bg rfl (.tmp 69) (.tmp 70) (by rfl) w4.heap.size _ f (by rfl) hof9 true (by rfl) (by omega) (by omega) ?_; intro v7 w7 hof7 hb7 _ _) | fail)
          have hs7 := hb7.size
          have hr9 := hr9.below hb7 (by omega)
          have hm9 := hm9.below hb7 (by omega)
          have hR9 := hR9.below hb7 (by omega)
          have hUU9 := hUU9.below hb7 (by omega)
          have hof9 := hof7
          clear hof7 hb7
          obtain ⟨f9, hf9⟩ : ∃ x, f ++ [true] = x := ⟨_, rfl⟩
          have hl9 : f9.length ≤ 64 := by rw [← hf9, List.length_append]; simp; omega
          rw [hf9] at hof9
          clear hf9
          obtain ⟨fa, fc, rfl, hfo⟩ := hof9.slice
          try go_wp2_with fail
          refine (s_aStrength hr9 (by omega)).mono ?_
          rintro e w10 ⟨t, rfl, ht, hr10, hU10⟩
          have hs10 := hU10.size
          have hm10 := hm9.upB hU10 (by omega) (by omega) hlt
          have hR10 : RIIc w10 w3.heap.size w4.heap.size a4 c4 s := ⟨hR9.rii.same fun k h1 h2 => hU10.block k (by omega) (by omega) (by omega), hR9.cap⟩
          have hf10 := hfo.ri.same (w' := w10) fun k h1 h2 => hU10.block k (by omega) (by omega) (by omega)
          have hUe := hUU9.trans (hU10.less (by omega))
          clear hm9 hR9 hfo hUU9 hU10 hr9 hr10
          go_wp2
          (try simp only [Exit.inBlock, Exit.then])
          refine bodyPost_ret (results_tmp4q rfl _ _ _) rfl ?_
          exact ⟨_, _, m, _, _, s, _, _, _, t, rfl, ⟨⟨hm10.wide (by omega) (by omega), HL3.out, hcap⟩, ⟨hR10.wide (by omega) (by omega), HS4.out⟩, hf10.wide (by omega) (by omega), hl9, ht.1, ht.2⟩, hb1.trans (hUe.toBelow (by omega) (by omega))⟩
        · have hune : (u == 0) = false := by rw [beq_eq_false_iff_ne]; exact hu0
          have hl9 : f.length ≤ 64 := by omega
          obtain ⟨fa, fc, rfl, hfo⟩ := hof9.slice
          try go_wp2_with fail
          refine (s_aStrength hr9 (by omega)).mono ?_
          rintro e w10 ⟨t, rfl, ht, hr10, hU10⟩
          have hs10 := hU10.size
          have hm10 := hm9.upB hU10 (by omega) (by omega) hlt
          have hR10 : RIIc w10 w3.heap.size w4.heap.size a4 c4 s := ⟨hR9.rii.same fun k h1 h2 => hU10.block k (by omega) (by omega) (by omega), hR9.cap⟩
          have hf10 := hfo.ri.same (w' := w10) fun k h1 h2 => hU10.block k (by omega) (by omega) (by omega)
          have hUe := hUU9.trans (hU10.less (by omega))
          clear hm9 hR9 hfo hUU9 hU10 hr9 hr10
          go_wp2
          (try simp only [Exit.inBlock, Exit.then])
          refine bodyPost_ret (results_tmp4q rfl _ _ _) rfl ?_
          exact ⟨_, _, m, _, _, s, _, _, _, t, rfl, ⟨⟨hm10.wide (by omega) (by omega), HL3.out, hcap⟩, ⟨hR10.wide (by omega) (by omega), HS4.out⟩, hf10.wide (by omega) (by omega), hl9, ht.1, ht.2⟩, hb1.trans (hUe.toBelow (by omega) (by omega))⟩
  have hd1 : decide ((1 : Int) < (F.length : Int)) = true := decide_eq_true (by omega)
  have hfc := hF6.cap
  obtain ⟨b7, o7, _, _, _, ha7, _⟩ := hF6.rii.at (show 0 < F.length by omega)
  subst ha7
  have hG6 := hF6.rii.takeR 1
  obtain ⟨G, hGe⟩ : ∃ G, F.take 1 = G := ⟨_, rfl⟩
  have HGR : Hid (∀ r ∈ G, r.length ≤ m.length) := fun r hr => by rw [← hGe] at hr; exact HFR.out r (List.mem_of_mem_take hr)
  have hGl : G.length = 1 := by rw [← hGe]; simp; omega
  have hsl2 := fun wx => sliceToII (b := b7) (o := o7) (n := F.length) (c := c6) (k := G.length) (z := 1) (by omega) (by omega) wx
  rw [hGe] at hG6
  have hG5 : G.length ≤ 5 := by omega
  have HG1 := Lib.hid hGl
  clear hF6 hGe hGl
  have H00 : Hid (∀ g, Value.ownBlock (.slice (some ⟨w4.heap.size, 0, none⟩) 0 0) = some g → g < WA.heap.size ∨ w5.heap.size ≤ g) := fun g hg => by simp [Value.ownBlock] at hg; omega
  go_wp2
  go_loopw [9, 11, 12] (fun fv i _ wr => ∃ (k : Nat) (f : List Bool), k ≤ s.length ∧ i = .int .i64 k ∧ f.length ≤ k ∧ OwnBo wr w4.heap.size fv f ∧ Hid (∀ g, fv.ownBlock = some g → g < WA.heap.size ∨ w5.heap.size ≤ g) ∧ Rdr wr w.heap.size (5000 + k) ∧ RI wr w1.heap.size w4.heap.size a3 m ∧ RIIc wr w3.heap.size w4.heap.size a4 c4 s ∧ RII wr WA.heap.size w5.heap.size (some ⟨b7, o7, none⟩) G ∧ UpB w.heap.size w1.heap.size w1 wr ∧ w5.heap.size ≤ wr.heap.size) (fun _ i _ _ => s.length - (intOf i).toNat)
  case atStart => exact ⟨0, [], Nat.zero_le _, rfl, Nat.le_refl _, hof6, H00, hr6, hm6, hR6, hG6, hUU6, by omega⟩
  case round =>
    clear hof6 H00 hr6 hm6 hR6 hG6 hUU6
    obtain ⟨k, f, hk, rfl, hfk, hof, HOB, hr, hm, hR, hG, hUU, hzr⟩ := hrel
    have hltr := hr.lt
    by_cases hlt2 : k < s.length
    case pos =>
      obtain ⟨b5, o5, a8, c8, r, ha5, _, hb5, hc5, hrr, hx5⟩ := hR.rii.at hlt2
      have hidx5 := idxII ha5 hlt2 c4
      clear ha5
      by_cases hlen : r.length = m.length
      case neg =>
        have hle : ((r.length : Int) == (m.length : Int)) = false := by rw [beq_eq_false_iff_ne]; omega
        clear hx5
        go_wp2_with fail
        refine (s_pick hr (by omega) (by omega) (by omega)).mono ?_
        rintro e w9 ⟨u, rfl, hu, hr9, hu9⟩
        have hs9 := hu9.size
        have hm9 := hm.upd hu9 (by omega) (.inr (by omega))
        have hR9 := hR.upd hu9 (by omega) (.inr (by omega))
        have hG9 := hG.upd hu9 (by omega) (.inr (by omega))
        have hof9 := hof.same (w' := w9) fun g h1 h2 => hu9.block g h2 (by omega)
        have hUU9 := hUU.upd hu9
        clear hm hR hG hof hUU hr hu9 hu
        by_cases hu0 : u = 0
        · subst hu0
          go_wp2_with (first | (at_builtin; refine wpList_app1Bg rfl (.tmp 62) (.tmp 64) (by rfl) w4.heap.size _ f (by rfl) hof9 true (by rfl) (by omega) (by omega) ?_; intro v7 w7 hof7 hb7 hk7 ho7) | go_in)
          have hs7 := hb7.size
          have HOB7 : Hid (∀ g, v7.ownBlock = some g → g < WA.heap.size ∨ w5.heap.size ≤ g) := fun g hg => by
            rcases ho7 g hg with h | h
            · exact HOB.out g h
            · right; omega
          have hr7 := (hr9.below hb7 (by omega)).mono (show _ ≤ 5000 + (k + 1) by omega)
          have hm7 := hm9.below hb7 (by omega)
          have hR7 := hR9.below hb7 (by omega)
          have hG7 := hG9.same fun g h1 h2 => hk7 g (by omega) (fun e => by have := HOB.out g e; omega)
          have hUU7 := hUU9.below hb7 (by omega)
          clear hof9 HOB hr9 hm9 hR9 hG9 hUU9 hb7 hk7 ho7
          go_roundw
          case rel => exact ⟨k + 1, f ++ [true], by omega, by go_num, by rw [List.length_append]; simp; omega, hof7, HOB7, hr7, hm7, hR7, hG7, hUU7, by omega⟩
          case measure => simp [intOf]; omega
        · have hune : (u == 0) = false := by rw [beq_eq_false_iff_ne]; exact hu0
          go_wp2_with (first | (at_builtin; refine wpList_app1Bg rfl (.tmp 62) (.tmp 64) (by rfl) w4.heap.size _ f (by rfl) hof9 false (by rfl) (by omega) (by omega) ?_; intro v7 w7 hof7 hb7 hk7 ho7) | go_in)
          have hs7 := hb7.size
          have HOB7 : Hid (∀ g, v7.ownBlock = some g → g < WA.heap.size ∨ w5.heap.size ≤ g) := fun g hg => by
            rcases ho7 g hg with h | h
            · exact HOB.out g h
            · right; omega
          have hr7 := (hr9.below hb7 (by omega)).mono (show _ ≤ 5000 + (k + 1) by omega)
          have hm7 := hm9.below hb7 (by omega)
          have hR7 := hR9.below hb7 (by omega)
          have hG7 := hG9.same fun g h1 h2 => hk7 g (by omega) (fun e => by have := HOB.out g e; omega)
          have hUU7 := hUU9.below hb7 (by omega)
          clear hof9 HOB hr9 hm9 hR9 hG9 hUU9 hb7 hk7 ho7
          go_roundw
          case rel => exact ⟨k + 1, f ++ [false], by omega, by go_num, by rw [List.length_append]; simp; omega, hof7, HOB7, hr7, hm7, hR7, hG7, hUU7, by omega⟩
          case measure => simp [intOf]; omega
      have hle : ((r.length : Int) == (m.length : Int)) = true := by rw [beq_iff_eq]; omega
      have HGL : Hid (∀ q ∈ G, q.length ≤ r.length) := fun q hq => by rw [hlen]; exact HGR.out q hq
      have hr12 : r.length ≤ 12 := by omega
      have HLN := Lib.hid hlen
      clear hlen hx5
      obtain ⟨y, hy⟩ : ∃ y, bnB G r = y := ⟨_, rfl⟩
      have HY := Lib.hid hy; clear hy
      go_wp2_with fail
      refine (s_allowed hG hrr (by omega) HGL.out (by omega)).mono ?_
      rintro e w8 ⟨rfl, d8⟩
      rw [HY.out]
      have hz8 := Dr.le d8
      have b8 := Dr.below d8 wr.heap.size
      have hr := hr.below b8 hltr
      have hm := hm.below b8 (by omega)
      have hR := hR.below b8 (by omega)
      have hG := hG.below b8 (by omega)
      have hof := hof.same (w' := w8) fun g h1 h2 => b8.block g h2
      have hUU := hUU.below b8 (by omega)
      clear b8 d8 hrr hc5 hidx5
      cases y
      · skip
        go_wp2_with fail
        refine (s_pick hr (by omega) (by omega) (by omega)).mono ?_
        rintro e w9 ⟨u, rfl, hu, hr9, hu9⟩
        have hs9 := hu9.size
        have hm9 := hm.upd hu9 (by omega) (.inr (by omega))
        have hR9 := hR.upd hu9 (by omega) (.inr (by omega))
        have hG9 := hG.upd hu9 (by omega) (.inr (by omega))
        have hof9 := hof.same (w' := w9) fun g h1 h2 => hu9.block g h2 (by omega)
        have hUU9 := hUU.upd hu9
        clear hm hR hG hof hUU hr hu9 hu
        by_cases hu0 : u = 0
        · subst hu0
          go_wp2_with (first | (at_builtin; refine wpList_app1Bg rfl (.tmp 62) (.tmp 64) (by rfl) w4.heap.size _ f (by rfl) hof9 true (by rfl) (by omega) (by omega) ?_; intro v7 w7 hof7 hb7 hk7 ho7) | go_in)
          have hs7 := hb7.size
          have HOB7 : Hid (∀ g, v7.ownBlock = some g → g < WA.heap.size ∨ w5.heap.size ≤ g) := fun g hg => by
            rcases ho7 g hg with h | h
            · exact HOB.out g h
            · right; omega
          have hr7 := (hr9.below hb7 (by omega)).mono (show _ ≤ 5000 + (k + 1) by omega)
          have hm7 := hm9.below hb7 (by omega)
          have hR7 := hR9.below hb7 (by omega)
          have hG7 := hG9.same fun g h1 h2 => hk7 g (by omega) (fun e => by have := HOB.out g e; omega)
          have hUU7 := hUU9.below hb7 (by omega)
          clear hof9 HOB hr9 hm9 hR9 hG9 hUU9 hb7 hk7 ho7
          go_roundw
          case rel => exact ⟨k + 1, f ++ [true], by omega, by go_num, by rw [List.length_append]; simp; omega, hof7, HOB7, hr7, hm7, hR7, hG7, hUU7, by omega⟩
          case measure => simp [intOf]; omega
        · have hune : (u == 0) = false := by rw [beq_eq_false_iff_ne]; exact hu0
          go_wp2_with (first | (at_builtin; refine wpList_app1Bg rfl (.tmp 62) (.tmp 64) (by rfl) w4.heap.size _ f (by rfl) hof9 false (by rfl) (by omega) (by omega) ?_; intro v7 w7 hof7 hb7 hk7 ho7) | go_in)
          have hs7 := hb7.size
          have HOB7 : Hid (∀ g, v7.ownBlock = some g → g < WA.heap.size ∨ w5.heap.size ≤ g) := fun g hg => by
            rcases ho7 g hg with h | h
            · exact HOB.out g h
            · right; omega
          have hr7 := (hr9.below hb7 (by omega)).mono (show _ ≤ 5000 + (k + 1) by omega)
          have hm7 := hm9.below hb7 (by omega)
          have hR7 := hR9.below hb7 (by omega)
          have hG7 := hG9.same fun g h1 h2 => hk7 g (by omega) (fun e => by have := HOB.out g e; omega)
          have hUU7 := hUU9.below hb7 (by omega)
          clear hof9 HOB hr9 hm9 hR9 hG9 hUU9 hb7 hk7 ho7
          go_roundw
          case rel => exact ⟨k + 1, f ++ [false], by omega, by go_num, by rw [List.length_append]; simp; omega, hof7, HOB7, hr7, hm7, hR7, hG7, hUU7, by omega⟩
          case measure => simp [intOf]; omega
      · skip
        go_wp2_with fail
        refine (s_pick hr (by omega) (by omega) (by omega)).mono ?_
        rintro e w9 ⟨u, rfl, hu, hr9, hu9⟩
        have hs9 := hu9.size
        have hm9 := hm.upd hu9 (by omega) (.inr (by omega))
        have hR9 := hR.upd hu9 (by omega) (.inr (by omega))
        have hG9 := hG.upd hu9 (by omega) (.inr (by omega))
        have hof9 := hof.same (w' := w9) fun g h1 h2 => hu9.block g h2 (by omega)
        have hUU9 := hUU.upd hu9
        clear hm hR hG hof hUU hr hu9 hu
        by_cases hu0 : u = 0
        · subst hu0
          go_wp2_with (first | (at_builtin; refine wpList_app1Bg rfl (.tmp 62) (.tmp 64) (by rfl) w4.heap.size _ f (by rfl) hof9 false (by rfl) (by omega) (by omega) ?_; intro v7 w7 hof7 hb7 hk7 ho7) | go_in)
          have hs7 := hb7.size
          have HOB7 : Hid (∀ g, v7.ownBlock = some g → g < WA.heap.size ∨ w5.heap.size ≤ g) := fun g hg => by
            rcases ho7 g hg with h | h
            · exact HOB.out g h
            · right; omega
          have hr7 := (hr9.below hb7 (by omega)).mono (show _ ≤ 5000 + (k + 1) by omega)
          have hm7 := hm9.below hb7 (by omega)
          have hR7 := hR9.below hb7 (by omega)
          have hG7 := hG9.same fun g h1 h2 => hk7 g (by omega) (fun e => by have := HOB.out g e; omega)
          have hUU7 := hUU9.below hb7 (by omega)
          clear hof9 HOB hr9 hm9 hR9 hG9 hUU9 hb7 hk7 ho7
          go_roundw
          case rel => exact ⟨k + 1, f ++ [false], by omega, by go_num, by rw [List.length_append]; simp; omega, hof7, HOB7, hr7, hm7, hR7, hG7, hUU7, by omega⟩
          case measure => simp [intOf]; omega
        · have hune : (u == 0) = false := by rw [beq_eq_false_iff_ne]; exact hu0
          go_wp2_with (first | (at_builtin; refine wpList_app1Bg rfl (.tmp 62) (.tmp 64) (by rfl) w4.heap.size _ f (by rfl) hof9 true (by rfl) (by omega) (by omega) ?_; intro v7 w7 hof7 hb7 hk7 ho7) | go_in)
          have hs7 := hb7.size
          have HOB7 : Hid (∀ g, v7.ownBlock = some g → g < WA.heap.size ∨ w5.heap.size ≤ g) := fun g hg => by
            rcases ho7 g hg with h | h
            · exact HOB.out g h
            · right; omega
          have hr7 := (hr9.below hb7 (by omega)).mono (show _ ≤ 5000 + (k + 1) by omega)
          have hm7 := hm9.below hb7 (by omega)
          have hR7 := hR9.below hb7 (by omega)
          have hG7 := hG9.same fun g h1 h2 => hk7 g (by omega) (fun e => by have := HOB.out g e; omega)
          have hUU7 := hUU9.below hb7 (by omega)
          clear hof9 HOB hr9 hm9 hR9 hG9 hUU9 hb7 hk7 ho7
          go_roundw
          case rel => exact ⟨k + 1, f ++ [true], by omega, by go_num, by rw [List.length_append]; simp; omega, hof7, HOB7, hr7, hm7, hR7, hG7, hUU7, by omega⟩
          case measure => simp [intOf]; omega
    case neg =>
      clear hG HOB
      go_wp2_with fail
      refine (s_pick hr (by omega) (by omega) (by omega)).mono ?_
      rintro e w9 ⟨u, rfl, hu, hr9, hu9⟩
      have hs9 := hu9.size
      have hm9 := hm.upd hu9 (by omega) (.inr (by omega))
      have hR9 := hR.upd hu9 (by omega) (.inr (by omega))
      have hof9 := hof.same (w' := w9) fun g h1 h2 => hu9.block g h2 (by omega)
      have hUU9 := hUU.upd hu9
      clear hm hR hof hUU hr hu9 hu
      by_cases hu0 : u = 0
      · subst hu0
        go_wp2_with (first | (at_builtin; refine wpList_app1Bg rfl (.tmp 69) (.tmp 70) (by rfl) w4.heap.size _ f (by rfl) hof9 true (by rfl) (by omega) (by omega) ?_; intro v7 w7 hof7 hb7 _ _) | fail)
        have hs7 := hb7.size
        have hr9 := hr9.below hb7 (by omega)
        have hm9 := hm9.below hb7 (by omega)
        have hR9 := hR9.below hb7 (by omega)
        have hUU9 := hUU9.below hb7 (by omega)
        have hof9 := hof7
        clear hof7 hb7
        obtain ⟨f9, hf9⟩ : ∃ x, f ++ [true] = x := ⟨_, rfl⟩
        have hl9 : f9.length ≤ 64 := by rw [← hf9, List.length_append]; simp; omega
        rw [hf9] at hof9
        clear hf9
        obtain ⟨fa, fc, rfl, hfo⟩ := hof9.slice
        try go_wp2_with fail
        refine (s_aStrength hr9 (by omega)).mono ?_
        rintro e w10 ⟨t, rfl, ht, hr10, hU10⟩
        have hs10 := hU10.size
        have hm10 := hm9.upB hU10 (by omega) (by omega) hlt
        have hR10 : RIIc w10 w3.heap.size w4.heap.size a4 c4 s := ⟨hR9.rii.same fun k h1 h2 => hU10.block k (by omega) (by omega) (by omega), hR9.cap⟩
        have hf10 := hfo.ri.same (w' := w10) fun k h1 h2 => hU10.block k (by omega) (by omega) (by omega)
        have hUe := hUU9.trans (hU10.less (by omega))
        clear hm9 hR9 hfo hUU9 hU10 hr9 hr10
        go_wp2
        (try simp only [Exit.inBlock, Exit.then])
        refine bodyPost_ret (results_tmp4q rfl _ _ _) rfl ?_
        exact ⟨_, _, m, _, _, s, _, _, _, t, rfl, ⟨⟨hm10.wide (by omega) (by omega), HL3.out, hcap⟩, ⟨hR10.wide (by omega) (by omega), HS4.out⟩, hf10.wide (by omega) (by omega), hl9, ht.1, ht.2⟩, hb1.trans (hUe.toBelow (by omega) (by omega))⟩
      · have hune : (u == 0) = false := by rw [beq_eq_false_iff_ne]; exact hu0
        have hl9 : f.length ≤ 64 := by omega
        obtain ⟨fa, fc, rfl, hfo⟩ := hof9.slice
        try go_wp2_with fail
        refine (s_aStrength hr9 (by omega)).mono ?_
        rintro e w10 ⟨t, rfl, ht, hr10, hU10⟩
        have hs10 := hU10.size
        have hm10 := hm9.upB hU10 (by omega) (by omega) hlt
        have hR10 : RIIc w10 w3.heap.size w4.heap.size a4 c4 s := ⟨hR9.rii.same fun k h1 h2 => hU10.block k (by omega) (by omega) (by omega), hR9.cap⟩
        have hf10 := hfo.ri.same (w' := w10) fun k h1 h2 => hU10.block k (by omega) (by omega) (by omega)
        have hUe := hUU9.trans (hU10.less (by omega))
        clear hm9 hR9 hfo hUU9 hU10 hr9 hr10
        go_wp2
        (try simp only [Exit.inBlock, Exit.then])
        refine bodyPost_ret (results_tmp4q rfl _ _ _) rfl ?_
        exact ⟨_, _, m, _, _, s, _, _, _, t, rfl, ⟨⟨hm10.wide (by omega) (by omega), HL3.out, hcap⟩, ⟨hR10.wide (by omega) (by omega), HS4.out⟩, hf10.wide (by omega) (by omega), hl9, ht.1, ht.2⟩, hb1.trans (hUe.toBelow (by omega) (by omega))⟩

set_option maxRecDepth 100000 in
theorem s_DrawCulpritsOf {n : Nat} {a : Option Addr} {c : Nat} {w : World} (hm : RB w w.heap.size a n) (hc : n ≤ c) (hl : n ≤ 1048576) :
    Calls Try.prog 100 #[.slice a n c] w (DrQ w) := by
  go_enter Try.func100, Try.ntmps100
  go_wp2_with fail
  refine (s_DrawSuspectsOf hm hc hl).mono ?_
  rintro e w1 ⟨a1, c1, m, a2, c2, s, a3, c3, f, t, rfl, h⟩
  go_wp2
  (try simp only [Exit.inBlock, Exit.then])
  refine bodyPost_ret (results_tmp4q rfl _ _ _) rfl ?_
  exact ⟨_, _, m, _, _, s, _, _, f, t, rfl, h⟩

end Go.Proofs.Ytehoagbpgahopaa
