/- Walks: what SplitTest draws. -/
import Derived.Test.YtehoagbpgahopaaRl
namespace Go.Proofs.Ytehoagbpgahopaa
open Go.RowKit

set_option maxRecDepth 100000 in
set_option maxHeartbeats 4000000 in
theorem s_DrawSplitTest {n : Nat} {a : Option Addr} {c : Nat} {w : World} (hm : RB w w.heap.size a n) (hc : n ≤ c) (hl : n ≤ 1048576) :
    Calls Try.prog 110 #[.slice a n c] w (fun e w' => ∃ (a1 : Option Addr) (c1 : Nat) (m : List Int) (a2 : Option Addr) (c2 : Nat) (s : List (List Int)), e = .returned (.tuple #[.slice a1 m.length c1, .slice a2 s.length c2]) ∧ (Got w w' 10 a1 c1 m ∧ GotS w w' 12 a2 c2 s) ∧ Below w.heap.size w w') := by
  go_enter Try.func110, Try.ntmps110
  go_wp2_with fail
  refine (s_newReader hm hc hl).mono ?_
  rintro e w1 ⟨rfl, hr1, hb1⟩
  have hlt := hr1.lt
  go_wp2_with fail
  refine (s_goodModel hr1 (by omega)).mono ?_
  rintro e w2 ⟨a2, c2, m2, rfl, ho2, hL2, hr2, hU2⟩
  go_wp2_with fail
  refine (s_bentModel hr2 (by omega) ho2 rfl hL2 (by omega) hlt hU2.size).mono ?_
  rintro e w3 ⟨a3, c3, m, rfl, ho3, hL3, hr3, hU3⟩
  have hU := hU2.trans hU3
  have hcap := ho3.cap.2
  have hs3 := hU.size
  have hlt3 := hr3.lt
  have hs1 := hb1.size
  clear ho2 hL2 hr2 hU2 hU3 hr1 hm
  have HL3 := Lib.hid hL3
  have hml := hL3.1
  clear hL3
  obtain ⟨W1, hW1⟩ : ∃ W, w3.alloc (.cells #[] 23) = W := ⟨_, rfl⟩
  have hbA : Below w3.heap.size w3 W1 := by rw [← hW1]; exact (Below.refl w3.heap.size w3).alloc (Nat.le_refl _) _
  have hsA : w3.heap.size + 1 ≤ W1.heap.size := by rw [← hW1]; simp
  have hoA : OwnX W1 w3.heap.size (.slice (some ⟨w3.heap.size, 0, none⟩) 0 0) [] := by rw [← hW1]; exact OwnX.made w3 w3.heap.size (Nat.le_refl _)
  have hbB := (Below.refl W1.heap.size W1).alloc (Nat.le_refl _) (.cells #[.int .i64 4, .int .i64 2, .int .i64 6, .int .i64 1, .int .i64 0, .int .i64 8] 3)
  go_wp2_with fail
  refine (s_one ((hr3.below hbA hlt3).below hbB (by omega)) (by omega) (litW W1 _ [4, 2, 6, 1, 0, 8] rfl) (by simp) (by simp) (.inr (by omega)) (by simp)).mono ?_
  rintro e w4 ⟨k, rfl, hk, hr4, hu4⟩
  have hk8 : 0 ≤ k ∧ k ≤ 8 := by simp at hk; omega
  have ho4 := (hoA.below hbB).upd hu4 (by omega)
  have hU4 : UpB w.heap.size w3.heap.size w3 w4 := (((UpB.refl _ w3.heap.size w3).below hbA (Nat.le_refl _)).below hbB (by omega)).upd hu4
  have hs4 := hU4.size
  clear hr3 hbA hbB hoA hu4 hk hsA
  have h0 : Hid (∀ r ∈ ([] : List (List Int)), LP 12 r) := by simp [Hid]
  go_wp2
  go_loopw [6] (fun v wr => ∃ (a : Option Addr) (c : Nat) (l : List (List Int)), v = .slice a l.length c ∧ OwnX wr w3.heap.size (.slice a l.length c) l ∧ l.length ≤ 8 ∧ Hid (∀ r ∈ l, LP 12 r) ∧ Rdr wr w.heap.size (100 + l.length * 30) ∧ UpB w.heap.size w3.heap.size w3 wr) (fun v _ => k.toNat - lenV v)
  case atStart => exact ⟨_, _, [], rfl, ho4, by simp, h0, by simpa using hr4.mono (by omega), hU4⟩
  case round =>
    clear ho4 hr4 hU4 h0
    obtain ⟨al, cl, l, rfl, ho, hl9, hLl, hr, hUl⟩ := hrel
    have hlw := hr.lt
    have hszr := hUl.size
    clear hW1
    have hmO := ho3.same (w' := wr) fun g h1 h2 => hUl.block g h2 h2 (by omega)
    obtain ⟨am, cm, em, hoim⟩ := ho3.slice
    cases em
    have hmR := hoim.ri.upB hUl (Nat.le_refl _) (Nat.le_refl _) hlt
    clear hoim
    by_cases hlt2 : (l.length : Int) < k
    · go_wp2_with fail
      refine (s_aPattern hr hmR (by omega) hlt HL3.out (by omega)).mono ?_
      rintro e w6 ⟨a6, c6, r, rfl, ho6, hl6, hr6, hU6⟩
      have HL6 := Lib.hid (hl6.mono (show 5 + 5 ≤ 12 by omega))
      have hr12 := hl6.1
      have hs6 := hU6.size
      have hX6 := ho.upB hU6 hlt3
      have hoff : ∀ g, (Value.slice al l.length cl).ownBlock = some g → g < wr.heap.size := fun g hg => (ho.lt g hg).2
      obtain ⟨a7, c7, e7, hoi⟩ := ho6.slice
      cases e7
      have hri := hoi.ri
      have hcp := hoi.cap
      have HOF := Lib.hid hoff
      have hU6l := hU6.less (show w3.heap.size ≤ wr.heap.size by omega)
      clear ho6 hl6 hoff ho hU6 hoi hmO hmR
      go_wp2_with (first
        | (at_builtin; refine wpList_appX rfl (.tmp 22) (.tmp 26) rfl w3.heap.size wr.heap.size w6.heap.size _ l rfl hX6 (by omega) r a6 r.length c6 rfl hri hcp (by omega) (Nat.le_refl _) HOF.out w6.heap.size rfl rfl (by omega) ?_; intro v8 w8 hown8 hb8 _; obtain ⟨a8, c8, hv8, _⟩ := hown8.riic; subst hv8)
        | go_in)
      have hr8 := hr6.below hb8 hlt3
      have hU8 := (hUl.trans hU6l).below hb8 (Nat.le_refl _)
      have HL8 := Lib.hid (SP.snoc hLl.out HL6.out)
      clear hX6 hri hr6 hU6l hUl hb8
      go_roundw
      case rel => exact ⟨a8, c8, l ++ [r], by simp, hown8, by simp; omega, HL8, hr8.mono (by simp; omega), hU8⟩
      case measure => simp [lenV]; omega
    · go_wp2_with fail
      refine (s_pick hr (by omega) (by omega) (by omega)).mono ?_
      rintro e w5 ⟨u, rfl, hu, hr5, hu5⟩
      have ho5 := ho.upd hu5 hlt3
      have hU5 := hUl.upd hu5
      have hm5 := hmO.upd hu5 hlt
      have hmR5 := hmR.upd hu5 (by omega) (.inr (by omega))
      have hs5 := hU5.size
      have hlw5 := hr5.lt
      clear ho hr hUl hu5 hu hmO hmR
      by_cases e0 : u = 0
      case neg =>
        have hvne : (u == 0) = false := by rw [beq_eq_false_iff_ne]; exact e0
        obtain ⟨aq, cq, eq, hX⟩ := ho5.riic
        cases eq
        have hB := hb1.trans ((hU.trans (hU5.less hs3)).toBelow (by omega) (by omega))
        go_wp2
        go_ret2
        exact ⟨_, _, m, _, _, l, rfl, ⟨⟨hmR5.wide (by omega) (by omega), HL3.out, hcap⟩, ⟨hX.wide (by omega) (Nat.le_refl _), by omega, hLl.out⟩⟩, hB⟩
      subst e0
      have hbnd : m.length ≤ 1099511627776 := by omega
      have hB5 : w1.heap.size ≤ w5.heap.size := by omega
      have HOWN : Hid (∀ g, Value.ownBlock (.slice a3 m.length c3) = some g → g < w3.heap.size) := fun g hg => (World.ownsRow.lt ho3 g hg).2
      go_wp2_with (at_builtin; refine run_app1kL rfl (.tmp 33) (.tmp 34) rfl w1.heap.size a3 m.length c3 m rfl hm5 2 w5.heap.size rfl rfl hbnd hB5 ?_; intro v6 w6 hown6 hb6 hmr6 hkp6; obtain ⟨m2, EM, hown6⟩ := named hown6; obtain ⟨a6, c6, hv6, hoi6⟩ := hown6.slice; subst hv6)
      have hz6 := hb6.size
      have hr6 := hr5.below hb6 hlt
      have ho6 := ho5.same hz6 fun g h1 h2 => hkp6 g h2 fun e => by have := HOWN.out g e; omega
      have HL6 : Hid (LP 11 m2) := by show LP _ _; rw [EM.out]; exact HL3.out.snoc (by omega)
      have hU6 := (hU.trans (hU5.less hs3)).trans ⟨hb6.os, hb6.tape, hb6.output, hb6.size, fun j hj hjB _ => hb6.block j hjB⟩
      have hmW6 : RI w6 w1.heap.size w3.heap.size a3 m := hmr6.own HOWN.out
      have hri6 := hoi6.ri
      clear ho5 hr5 hb6 hkp6 hoi6 hown6 hm5 hmr6 hU5 hmR5
      go_wp2_with fail
      refine (s_somePattern hr6 hri6 (Nat.le_refl _) hlt HL6.out (by omega)).mono ?_
      rintro e w7 ⟨a7, c7, r, rfl, ho7, hLr, hr7, hU7⟩
      have hs7 := hU7.size
      have hX7 := ho6.upB hU7 hlt3
      have hLrn := hLr.1
      have HLr := Lib.hid hLr
      have HOF : Hid (∀ g, (Value.slice al l.length cl).ownBlock = some g → g < w6.heap.size) := fun g hg => (ho6.lt g hg).2
      obtain ⟨aq, cq, eq, hoi⟩ := ho7.slice
      cases eq
      have hri := hoi.ri
      have hcp := hoi.cap
      have hU7B := hU6.trans (hU7.less (show w1.heap.size ≤ w6.heap.size by omega))
      have hmW7 := hmW6.upB hU7 (by omega) (by omega) hlt
      clear ho6 ho7 hoi hLr hU7 hU6 hri6 hmW6
      go_wp2_with (first
        | (at_builtin; refine wpList_appX rfl (.tmp 31) (.tmp 37) rfl w3.heap.size w6.heap.size w7.heap.size _ l rfl hX7 (by omega) r a7 r.length c7 rfl hri hcp (by omega) (Nat.le_refl _) HOF.out w7.heap.size rfl rfl (by omega) ?_; intro v8 w8 hown8 hb8 _; obtain ⟨a8, c8, hv8, hX8⟩ := hown8.riic; subst hv8)
        | go_in)
      have hz8 := hb8.size
      have hU8 := hU7B.below hb8 (by omega)
      have hmW8 := hmW7.below hb8 (Nat.le_refl _)
      have hB := hb1.trans (hU8.toBelow (by omega) (by omega))
      have HSQ : Hid (SQ 12 (l ++ [r])) := ⟨by simp; omega, fun q hq => by
        rcases List.mem_append.1 hq with hq | hq
        · exact hLl.out q hq
        · rw [List.mem_singleton.1 hq]; exact HLr.out⟩
      clear hX7 hri hr7 hU7B hb8 hmW7 hU8
      go_ret2
      exact ⟨_, _, m, a8, c8, l ++ [r], by simp, ⟨⟨hmW8.wide (by omega) (by omega), HL3.out, hcap⟩, ⟨hX8.wide (by omega) (Nat.le_refl _), HSQ.out⟩⟩, hB⟩

end Go.Proofs.Ytehoagbpgahopaa
