/- Walks: the reader. -/
import Derived.Test.YtpioldgpfpmjiaaGreatDoorRd
import Derived.Test.YtpioldgpfpmjiaaGreatDoorWf
namespace Go.Proofs.YtpioldgpfpmjiaaGreatDoor
open Go.RowKit

/-- a list that was drawn: it lies from block B on; of the blocks below only the reader's has turned -/
def Dl (w : World) (b K B : Nat) (Pr : List Int → Prop) (e : Ending) (w' : World) : Prop := ∃ (a : Option Addr) (c : Nat) (l : List Int), e = .returned (.slice a l.length c) ∧ OwnL w' B (.slice a l.length c) l ∧ Pr l ∧ Rdr w' b K ∧ UpB b B w w'

/- Walks: models that are bent, tests and patterns that are drawn. -/
open Go.RowKit

/-- the greater of a number and 1 -/
def mx1 (x : Int) : Int := if x < 1 then 1 else x
theorem mx1_b {x : Int} (h : x ≤ 4) : 1 ≤ mx1 x ∧ mx1 x ≤ 4 := by unfold mx1; split <;> omega
theorem maxOne (x : Int) (wx : World) : (Builtin.max_ #[3, 3] 3 #[.int .i64 x, .int .i64 1]).run Tryz.prog wx = .ok (.int .i64 (mx1 x)) wx := by
  rw [run_max_int2]
  unfold mx1
  rfl

set_option maxRecDepth 100000 in
set_option maxHeartbeats 2000000 in
theorem s_aTest {b K N lo hi c : Nat} {a : Option Addr} {m : List Int} {w : World} (hr : Rdr w b K) (hm : RI w lo hi a m) (hhi : hi ≤ w.heap.size) (hlo : b < lo) (hL : LP N m) (hK : K + N ≤ 1000000) :
    Calls Tryz.prog 36 #[.pointer (some ⟨b, 0, none⟩), .slice a m.length c] w (Dl w b (K + N) w.heap.size (fun l => l.length = m.length ∧ LP N l)) := by
  have hlt := hr.lt
  have hl1 := hL.1
  have HL := Lib.hid hL; clear hL
  obtain ⟨W1, hW1⟩ : ∃ W, w.alloc (.cells #[] 3) = W := ⟨_, rfl⟩
  have hb1 : Below w.heap.size w W1 := by rw [← hW1]; exact (Below.refl w.heap.size w).alloc (Nat.le_refl _) _
  have ho1 : OwnL W1 w.heap.size (.slice (some ⟨w.heap.size, 0, none⟩) 0 0) [] := by rw [← hW1]; exact OwnL.made w w.heap.size (Nat.le_refl _)
  have hr1 := hr.below hb1 hlt
  have hU1 := (UpB.refl b w.heap.size w).below hb1 (Nat.le_refl _)
  go_enter Tryz.func36, Tryz.ntmps36
  go_wp2
  clear hW1 hb1
  go_loopw [5, 6] (fun v i wr => ∃ (k : Nat) (a : Option Addr) (c : Nat) (l : List Int), k ≤ m.length ∧ i = .int .i64 k ∧ v = .slice a l.length c ∧ OwnL wr w.heap.size (.slice a l.length c) l ∧ Hid (l.length = k ∧ LP k l) ∧ Rdr wr b (K + k) ∧ UpB b w.heap.size w wr) (fun _ i _ => m.length - (intOf i).toNat)
  case atStart => exact ⟨0, _, _, [], Nat.zero_le _, rfl, rfl, ho1, ⟨rfl, LP.nil _⟩, hr1, hU1⟩
  case round =>
    clear ho1 hr1 hU1
    obtain ⟨k, a3, c3, l, hk, rfl, rfl, ho, hL, hr, hU⟩ := hrel
    have hszr := hU.size
    have hlk := hL.out.1
    have hlk1 : l.length ≤ k := by omega
    clear hlk
    by_cases hlt2 : k < m.length
    · obtain ⟨b1, o1, x, ha, _, _, hcell, hx⟩ := (hm.upB hU hhi hhi hlo).at hlt2
      have hidx := idxI ha hlt2 c
      have hx4 := HL.out.2 x (List.mem_of_getElem? hx.out)
      have hmx := maxOne x
      have hmb := mx1_b hx4.2
      clear ha hm
      go_wp2_with fail
      refine (s_pick hr (by omega) (by omega) (by omega)).mono ?_
      rintro e w3 ⟨y, rfl, hy, hr3, hu3⟩
      have hy1 := hy.2 hmb.1
      have hy0 := hy.1
      have ho3 := ho.upd hu3 hlt
      have hU3 := hU.upd hu3
      have hs3 := hU3.size
      clear ho hr hU hu3 hy hmx
      go_wp2_with (first
        | (at_builtin; refine wpList_app1 rfl _ _ rfl w.heap.size _ l rfl ho3 y rfl (by omega) hs3 ?_; intro v4 w4 ho4 hb4)
        | go_in)
      obtain ⟨a4, c4, rfl, _⟩ := ho4.slice
      have hr4 := hr3.below hb4 hlt
      have hU4 := hU3.below hb4 (Nat.le_refl _)
      have HL4 : Hid ((l ++ [y]).length = k + 1 ∧ LP (k + 1) (l ++ [y])) := ⟨by have := hL.out.1; simp; omega, hL.out.2.snoc (by omega)⟩
      clear ho3 hr3 hU3 hb4
      go_roundw
      case rel => exact ⟨k + 1, a4, c4, l ++ [y], by omega, by go_num, rfl, ho4, HL4, hr4.mono (by omega), hU4⟩
      case measure => simp [intOf]; omega
    · go_wp2
      go_ret
      have h9 := hL.out
      exact ⟨a3, c3, l, rfl, ho, ⟨by omega, h9.2.mono (by omega)⟩, hr.mono (by omega), hU⟩

/- Walks: patterns and strengths that are drawn; what the laws draw. -/
open Go.RowKit

/-- a list that a law has drawn -/
structure Got (w w' : World) (N : Nat) (a : Option Addr) (c : Nat) (m : List Int) : Prop where
  ri : RI w' w.heap.size w'.heap.size a m
  lp : LP N m
  cap : m.length ≤ c
theorem gotUpB {w1 w2 : World} {b B : Nat} {a : Option Addr} {m : List Int} (h : RI w1 B w1.heap.size a m) (hu : UpB b w1.heap.size w1 w2) (hb : b < B) : RI w2 B w1.heap.size a m := h.upB hu (Nat.le_refl _) (Nat.le_refl _) hb

/-- two lists that a law has drawn -/
def Dr2 (w : World) (N M : Nat) (e : Ending) (w' : World) : Prop := ∃ (a1 : Option Addr) (c1 : Nat) (m : List Int) (a2 : Option Addr) (c2 : Nat) (t : List Int), e = .returned (.tuple #[.slice a1 m.length c1, .slice a2 t.length c2]) ∧ (Got w w' N a1 c1 m ∧ Got w w' M a2 c2 t) ∧ Below w.heap.size w w'

end Go.Proofs.YtpioldgpfpmjiaaGreatDoor
