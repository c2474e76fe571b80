/- Walks: small models that are drawn, and what FnHuntFault and FnFewestTests draw. -/
import Derived.Test.YtehoagbpgahopaaRe
namespace Go.Proofs.Ytehoagbpgahopaa
open Go.RowKit

/-- levels 1 to 3, n of them at most -/
def MdJ (n : Nat) (l : List Int) : Prop := l.length ≤ n ∧ ∀ x ∈ l, 1 ≤ x ∧ x ≤ 3
theorem MdJ.ok {n : Nat} {l : List Int} (h : MdJ n l) (h0 : 1 ≤ l.length) (h5 : n ≤ 5) : okM l = true := by
  refine okM_mk h0 (Nat.le_trans h.1 h5) ?_
  rw [List.all_eq_true]
  exact fun x hx => inR_true.2 (h.2 x hx)

theorem MdJ.lp {n : Nat} {l : List Int} (h : MdJ n l) (h5 : n ≤ 5) : LP 5 l := ⟨Nat.le_trans h.1 h5, fun x hx => by have := h.2 x hx; omega⟩

set_option maxRecDepth 100000 in
set_option maxHeartbeats 2000000 in
theorem s_smallModelJ {b K : Nat} {w : World} (hr : Rdr w b K) (hK : K ≤ 1000000) :
    Calls Try.prog 160 #[.pointer (some ⟨b, 0, none⟩)] w (Dl w b (K + 6) w.heap.size (fun l => okM l = true ∧ LP 5 l)) := by
  have hlt := hr.lt
  obtain ⟨W1, hW1⟩ : ∃ W, w.alloc (.cells #[] 3) = W := ⟨_, rfl⟩
  have hb1 : Below w.heap.size w W1 := by rw [← hW1]; exact (Below.refl w.heap.size w).alloc (Nat.le_refl _) _
  have hs1 : w.heap.size + 1 ≤ W1.heap.size := by rw [← hW1]; simp
  have ho1 : OwnL W1 w.heap.size (.slice (some ⟨w.heap.size, 0, none⟩) 0 0) [] := by rw [← hW1]; exact OwnL.made w w.heap.size (Nat.le_refl _)
  have hb2 := (Below.refl W1.heap.size W1).alloc (Nat.le_refl _) (.cells #[.int .i64 2, .int .i64 3, .int .i64 2, .int .i64 1] 3)
  go_enter Try.func160, Try.ntmps160
  go_wp2_with fail
  refine (s_one ((hr.below hb1 hlt).below hb2 (by omega)) (by omega) (litW W1 _ [2, 3, 2, 1] rfl) (by simp) (by simp) (.inr (by omega)) (by simp)).mono ?_
  rintro e w2 ⟨n, rfl, hn, hr2, hu2⟩
  have hn5 : 1 ≤ n ∧ n ≤ 3 := by simp at hn; omega
  have ho2 := (ho1.same fun g _ h2 => hb2.block g h2).upd hu2 hlt
  have hU2 : UpB b w.heap.size w w2 := (((UpB.refl b w.heap.size w).below hb1 (Nat.le_refl _)).below hb2 (by omega)).upd hu2
  have hs2 := hU2.size
  clear hr hb1 hb2 ho1 hu2 hn hs1
  go_wp2
  go_loopw [3] (fun v wr => ∃ (a : Option Addr) (c : Nat) (l : List Int), v = .slice a l.length c ∧ OwnL wr w.heap.size (.slice a l.length c) l ∧ MdJ n.toNat l ∧ Rdr wr b (K + 1 + l.length) ∧ UpB b w.heap.size w wr) (fun v _ => n.toNat - lenV v)
  case atStart => exact ⟨_, _, [], rfl, ho2, ⟨Nat.zero_le _, by simp⟩, hr2, hU2⟩
  case round =>
    clear ho2 hr2 hU2
    obtain ⟨a, c, l, rfl, ho, hL, hr, hU⟩ := hrel
    have hl1 := hL.1
    have hlw := hr.lt
    have hszr := hU.size
    have HL := Lib.hid hL
    clear hL hW1
    by_cases hlt2 : (l.length : Int) < n
    · have hb3 := (Below.refl wr.heap.size wr).alloc (Nat.le_refl _) (.cells #[.int .i64 2, .int .i64 2, .int .i64 3, .int .i64 1] 3)
      go_wp2_with fail
      refine (s_one (hr.below hb3 hlw) (by omega) (litW wr _ [2, 2, 3, 1] rfl) (by simp) (by simp) (.inr hlw) (by simp)).mono ?_
      rintro e w3 ⟨x, rfl, hx, hr3, hu3⟩
      have hx3 : 1 ≤ x ∧ x ≤ 3 := by simp at hx; omega
      have ho3 := (ho.same fun g _ h2 => hb3.block g h2).upd hu3 hlt
      have hU3 := (hU.below hb3 (by omega)).upd hu3
      have hs3 := hU3.size
      clear ho hr hU hu3 hx hb3
      go_wp2_with (first
        | (at_builtin; refine wpList_app1 rfl _ _ rfl w.heap.size _ l rfl ho3 x rfl (by omega) hs3 ?_; intro v4 w4 ho4 hb4)
        | go_in)
      obtain ⟨a4, c4, rfl, _⟩ := ho4.slice
      have hr4 := hr3.below hb4 hlt
      have hU4 := hU3.below hb4 (Nat.le_refl _)
      have HL4 : Hid (MdJ n.toNat (l ++ [x])) := ⟨by simp; omega, fun y hy => by rcases List.mem_append.1 hy with hy | hy; exact HL.out.2 y hy; rw [List.mem_singleton] at hy; rw [hy]; exact hx3⟩
      clear ho3 hr3 hU3 hb4
      go_roundw
      case rel => exact ⟨a4, c4, l ++ [x], rfl, ho4, HL4.out, hr4.mono (by simp; omega), hU4⟩
      case measure => simp [lenV]; omega
    · go_wp2
      go_ret
      exact ⟨a, c, l, rfl, ho, ⟨MdJ.ok HL.out (by omega) (by omega), MdJ.lp HL.out (by omega)⟩, hr.mono (by omega), hU⟩

set_option maxRecDepth 100000 in
set_option maxHeartbeats 1000000 in
theorem s_DrawHuntFault {n : Nat} {a : Option Addr} {c : Nat} {w : World} (hm : RB w w.heap.size a n) (hc : n ≤ c) (hl : n ≤ 1048576) :
    Calls Try.prog 114 #[.slice a n c] w (Dr2 w 10 11) := by
  go_enter Try.func114, Try.ntmps114
  go_wp2_with fail
  refine (s_newReader hm hc hl).mono ?_
  rintro e w1 ⟨rfl, hr1, hb1⟩
  have hlt := hr1.lt
  go_wp2_with fail
  refine (s_smallModelJ hr1 (by omega)).mono ?_
  rintro e w2 ⟨a2, c2, m2, rfl, ho2, ⟨_, hL2⟩, hr2, hU2⟩
  go_wp2_with fail
  refine (s_bentModel hr2 (by omega) ho2 rfl hL2 (by omega) hlt hU2.size).mono ?_
  rintro e w3 ⟨a3, c3, m3, rfl, ho3, hL3, hr3, hU3⟩
  have hU := hU2.trans hU3
  have hcap := ho3.cap.2
  obtain ⟨a5, c5, e5, hoi⟩ := ho3.slice
  cases e5
  go_wp2_with fail
  refine (s_somePattern hr3 hoi.ri (Nat.le_refl _) hlt hL3 (by omega)).mono ?_
  rintro e w4 ⟨a4, c4, t, rfl, ho4, hL4, hr4, hU4⟩
  have hri := gotUpB hoi.ri hU4 hlt
  have hcap4 := ho4.cap.2
  obtain ⟨a6, c6, e6, hoi4⟩ := ho4.slice
  cases e6
  have hs4 := hU4.size
  have hs3 := hU.size
  go_wp2
  go_ret2
  exact ⟨_, _, m3, _, _, t, rfl, ⟨⟨hri.wide (by omega) hs4, hL3, hcap⟩, ⟨hoi4.ri.wide (by omega) (Nat.le_refl _), hL4, hcap4⟩⟩, hb1.trans ((hU.trans (hU4.less hs3)).toBelow (by omega) (by omega))⟩

set_option maxRecDepth 100000 in
set_option maxHeartbeats 1000000 in
theorem s_DrawFewestTests {n : Nat} {a : Option Addr} {c : Nat} {w : World} (hm : RB w w.heap.size a n) (hc : n ≤ c) (hl : n ≤ 1048576) :
    Calls Try.prog 65 #[.slice a n c] w (fun e w' => ∃ (a1 : Option Addr) (c1 : Nat) (m : List Int) (t : Int), e = .returned (.tuple #[.slice a1 m.length c1, .int .i64 t]) ∧ (Got w w' 10 a1 c1 m ∧ -4 ≤ t ∧ t ≤ 6) ∧ Below w.heap.size w w') := by
  go_enter Try.func65, Try.ntmps65
  go_wp2_with fail
  refine (s_newReader hm hc hl).mono ?_
  rintro e w1 ⟨rfl, hr1, hb1⟩
  have hlt := hr1.lt
  go_wp2_with fail
  refine (s_smallModelJ hr1 (by omega)).mono ?_
  rintro e w2 ⟨a2, c2, m2, rfl, ho2, ⟨_, hL2⟩, hr2, hU2⟩
  go_wp2_with fail
  refine (s_bentModel hr2 (by omega) ho2 rfl hL2 (by omega) hlt hU2.size).mono ?_
  rintro e w3 ⟨a3, c3, m3, rfl, ho3, hL3, hr3, hU3⟩
  have hU := hU2.trans hU3
  have hcap := ho3.cap.2
  obtain ⟨a5, c5, e5, hoi⟩ := ho3.slice
  cases e5
  go_wp2_with fail
  refine (s_aStrength hr3 (by omega)).mono ?_
  rintro e w4 ⟨t, rfl, ht, hr4, hU4⟩
  have hri := gotUpB hoi.ri hU4 hlt
  have hs4 := hU4.size
  go_wp2
  go_ret2
  exact ⟨_, _, m3, t, rfl, ⟨⟨hri.wide (by omega) hs4, hL3, hcap⟩, ht⟩, hb1.trans ((hU.trans (hU4.less (hU.size))).toBelow (by omega) (by omega))⟩

end Go.Proofs.Ytehoagbpgahopaa
