/- Walks: models that are drawn. -/
import Derived.Test.YtmmebcjebphfcaaRe
namespace Go.Proofs.Ytmmebcjebphfcaa
open Go.RowKit

/-- at most N numbers, all of them small -/
def LP (N : Nat) (l : List Int) : Prop := l.length ≤ N ∧ ∀ x ∈ l, -4 ≤ x ∧ x ≤ 4
theorem LP.mono {N N' : Nat} {l : List Int} (h : LP N l) (hN : N ≤ N') : LP N' l := ⟨Nat.le_trans h.1 hN, h.2⟩
theorem LP.nil (N : Nat) : LP N [] := ⟨Nat.zero_le _, by simp⟩
theorem LP.app {N M : Nat} {l k : List Int} (h : LP N l) (h2 : LP M k) : LP (N + M) (l ++ k) := ⟨by rw [List.length_append]; have := h.1; have := h2.1; omega, fun x hx => by (rcases List.mem_append.1 hx with h3 | h3); exact h.2 x h3; exact h2.2 x h3⟩
theorem LP.snoc {N : Nat} {l : List Int} {x : Int} (h : LP N l) (hx : -4 ≤ x ∧ x ≤ 4) : LP (N + 1) (l ++ [x]) := h.app ⟨by simp, by simpa using hx⟩
theorem LP.set {N j : Nat} {l : List Int} {x : Int} (h : LP N l) (hx : -4 ≤ x ∧ x ≤ 4) : LP N (l.set j x) :=
  ⟨by rw [List.length_set]; exact h.1, fun y hy => by (rcases List.mem_or_eq_of_mem_set hy with h3 | h3); exact h.2 y h3; exact h3 ▸ hx⟩

/-- of the blocks below B only b may have turned -/
structure UpB (b B : Nat) (w w' : World) : Prop where
  os : w'.os = w.os
  tape : w'.tape = w.tape
  output : w'.output = w.output
  size : w.heap.size ≤ w'.heap.size
  block : ∀ k, k < w.heap.size → k < B → k ≠ b → w'.heap[k]? = w.heap[k]?
theorem UpB.refl (b B : Nat) (w : World) : UpB b B w w := ⟨rfl, rfl, rfl, Nat.le_refl _, fun _ _ _ _ => rfl⟩
theorem UpB.trans {b B : Nat} {w w1 w2 : World} (h : UpB b B w w1) (k : UpB b B w1 w2) : UpB b B w w2 :=
  ⟨k.os.trans h.os, k.tape.trans h.tape, k.output.trans h.output, Nat.le_trans h.size k.size, fun i hi hB hb => (k.block i (Nat.lt_of_lt_of_le hi h.size) hB hb).trans (h.block i hi hB hb)⟩
theorem UpB.upd {b B : Nat} {w w1 w2 : World} (h : UpB b B w w1) (k : Upd b (b + 1) w1 w2) : UpB b B w w2 := h.trans ⟨k.os, k.tape, k.output, k.size, fun i hi _ hb => k.block i hi (by omega)⟩
theorem UpB.below {b B B' : Nat} {w w1 w2 : World} (h : UpB b B w w1) (k : Below B' w1 w2) (hB : B ≤ B') : UpB b B w w2 := h.trans ⟨k.os, k.tape, k.output, k.size, fun i _ hi _ => k.block i (by omega)⟩
theorem UpB.set {b B : Nat} {w w1 : World} (h : UpB b B w w1) {p : Addr} (hp : B ≤ p.block) (u : Value) : UpB b B w (w1.setCell p u) :=
  h.trans ⟨rfl, rfl, rfl, by simp [World.setCell], fun k _ hk _ => Below.heap_setCell _ _ _ _ (by omega)⟩
theorem UpB.less {b B B' : Nat} {w w1 : World} (h : UpB b B w w1) (hB : B' ≤ B) : UpB b B' w w1 := ⟨h.os, h.tape, h.output, h.size, fun k h1 h2 h3 => h.block k h1 (by omega) h3⟩
theorem UpB.toBelow {b B : Nat} {w w1 : World} (h : UpB b B w w1) (hb : b ≤ B) (hw : b ≤ w.heap.size) : Below b w w1 := ⟨h.os, h.tape, h.output, h.size, fun k hk => h.block k (by omega) (by omega) (by omega)⟩
theorem RI.upB {b B lo hi : Nat} {w w1 : World} {a : Option Addr} {m : List Int} (h : RI w lo hi a m) (hu : UpB b B w w1) (h1 : hi ≤ w.heap.size) (h2 : hi ≤ B) (h3 : b < lo) : RI w1 lo hi a m := h.same fun k h4 h5 => hu.block k (by omega) (by omega) (by omega)

theorem OwnL.same {w w' : World} {B : Nat} {v : Value} {l : List Int} (h : OwnL w B v l) (hb : ∀ g, B ≤ g → g < w.heap.size → w'.heap[g]? = w.heap[g]?) : OwnL w' B v l := by
  have hlt := World.ownsRow.lt h
  obtain ⟨h1, h2⟩ := h
  refine ⟨h1, ?_⟩
  rcases h2 with h2 | ⟨g, cap, cur, rfl, hB, hg, rest⟩
  · exact .inl h2
  · exact .inr ⟨g, cap, cur, rfl, hB, by rw [hb g (hlt g rfl).1 (hlt g rfl).2]; exact hg, rest⟩
theorem OwnL.upd {w w' : World} {b B : Nat} {v : Value} {l : List Int} (h : OwnL w B v l) (hu : Upd b (b + 1) w w') (hb : b < B) : OwnL w' B v l := h.same fun g h1 h2 => hu.block g h2 (by omega)
theorem OwnL.cap {w : World} {B n c : Nat} {a : Option Addr} {l : List Int} (h : OwnL w B (.slice a n c) l) : n = l.length ∧ l.length ≤ c := by
  obtain ⟨_, h2⟩ := h
  rcases h2 with ⟨h2, h0⟩ | ⟨g, cap, cur, e, hB, hg, hn, _⟩
  · cases h2; omega
  · cases e; exact ⟨rfl, hn⟩
/-- one of its numbers is written -/
theorem OwnL.put {w : World} {B : Nat} {a : Option Addr} {n c : Nat} {l : List Int} (h : OwnL w B (.slice a n c) l) {j : Nat} (hj : j < l.length) :
    ∃ g, a = Option.some ⟨g, 0, none⟩ ∧ B ≤ g ∧ g < w.heap.size ∧ (∃ y, w.cell? ⟨g, j, none⟩ = Option.some (.int .i64 y)) ∧ w.frozen? ⟨g, j, none⟩ = false ∧ ∀ x, OwnL (w.setCell ⟨g, j, none⟩ (.int .i64 x)) B (.slice a n c) (l.set j x) := by
  have hlt := World.ownsRow.lt h
  obtain ⟨a', c', e0, hoi⟩ := h.slice
  cases e0
  obtain ⟨b1, o1, ha, h1, h2, ⟨y, hy, hcy⟩, hfr⟩ := hoi.oi j hj
  obtain ⟨h3, h4⟩ := h
  rcases h4 with ⟨h4, h0⟩ | ⟨g, cap, cur, e, hB, hg, hn, hm, hs, ht⟩
  · omega
  · cases e
    obtain ⟨rfl, rfl⟩ : g = b1 ∧ 0 = o1 := by simpa using ha
    rw [Nat.zero_add] at hcy hfr
    refine ⟨g, rfl, hB, h2, ⟨y, hcy⟩, hfr, fun x => ⟨by simp [ints], .inr ⟨g, c, cur.setIfInBounds j (.int .i64 x), by rw [List.length_set], hB, ?_, by rw [List.length_set]; exact hn, hm, by simpa using hs, ?_⟩⟩⟩
    · simp only [World.setCell, Array.getElem?_modify, if_true]
      rw [hg]; rfl
    · rw [List.length_set, Array.toList_setIfInBounds, List.take_set, ht]
      simp [ints, List.map_set]

theorem litW (w : World) (cs : Array Value) (l : List Int) (hc : cs.toList = l.map (Value.int .i64)) : RI (w.alloc (.cells cs 3)) w.heap.size (w.heap.size + 1) (some ⟨w.heap.size, 0, none⟩) l := by
  intro k hk
  obtain ⟨x, hx⟩ := at_of_lt hk
  refine ⟨w.heap.size, 0, rfl, Nat.le_refl _, Nat.lt_succ_self _, x, hx, ?_⟩
  rw [Nat.zero_add, cell_of_row _ w.heap.size k cs 3 (0, 0) (heap_alloc_new w _), ← Array.getElem?_toList, hc]
  simp [hx]

/-- a list that was drawn: it lies from block B on; of the blocks below only the reader's has turned -/
def Dl (w : World) (b K B : Nat) (Pr : List Int → Prop) (e : Ending) (w' : World) : Prop := ∃ (a : Option Addr) (c : Nat) (l : List Int), e = .returned (.slice a l.length c) ∧ OwnL w' B (.slice a l.length c) l ∧ Pr l ∧ Rdr w' b K ∧ UpB b B w w'

set_option maxRecDepth 100000 in
set_option maxHeartbeats 2000000 in
theorem s_goodModel {b K : Nat} {w : World} (hr : Rdr w b K) (hK : K ≤ 1000000) :
    Calls Try.prog 66 #[.pointer (some ⟨b, 0, none⟩)] w (Dl w b (K + 6) w.heap.size (LP 5)) := by
  have hlt := hr.lt
  obtain ⟨W1, hW1⟩ : ∃ W, w.alloc (.cells #[] 3) = W := ⟨_, rfl⟩
  have hb1 : Below w.heap.size w W1 := by rw [← hW1]; exact (Below.refl w.heap.size w).alloc (Nat.le_refl _) _
  have hs1 : w.heap.size + 1 ≤ W1.heap.size := by rw [← hW1]; simp
  have ho1 : OwnL W1 w.heap.size (.slice (some ⟨w.heap.size, 0, none⟩) 0 0) [] := by rw [← hW1]; exact OwnL.made w w.heap.size (Nat.le_refl _)
  have hb2 := (Below.refl W1.heap.size W1).alloc (Nat.le_refl _) (.cells #[.int .i64 3, .int .i64 3, .int .i64 4, .int .i64 2, .int .i64 3, .int .i64 1, .int .i64 5] 3)
  go_enter Try.func66, Try.ntmps66
  go_wp2_with fail
  refine (s_one ((hr.below hb1 hlt).below hb2 (by omega)) (by omega) (litW W1 _ [3, 3, 4, 2, 3, 1, 5] rfl) (by simp) (by simp) (.inr (by omega)) (by simp)).mono ?_
  rintro e w2 ⟨n, rfl, hn, hr2, hu2⟩
  have hn5 : 1 ≤ n ∧ n ≤ 5 := by simp at hn; omega
  have ho2 := (ho1.same fun g _ h2 => hb2.block g h2).upd hu2 hlt
  have hU2 : UpB b w.heap.size w w2 := (((UpB.refl b w.heap.size w).below hb1 (Nat.le_refl _)).below hb2 (by omega)).upd hu2
  have hs2 := hU2.size
  clear hr hb1 hb2 ho1 hu2 hn hs1
  go_wp2
  go_loopw [3] (fun v wr => ∃ (a : Option Addr) (c : Nat) (l : List Int), v = .slice a l.length c ∧ OwnL wr w.heap.size (.slice a l.length c) l ∧ LP n.toNat l ∧ Rdr wr b (K + 1 + l.length) ∧ UpB b w.heap.size w wr) (fun v _ => n.toNat - lenV v)
  case atStart => exact ⟨_, _, [], rfl, ho2, LP.nil _, hr2, hU2⟩
  case round =>
    clear ho2 hr2 hU2
    obtain ⟨a, c, l, rfl, ho, hL, hr, hU⟩ := hrel
    have hl1 := hL.1
    have hlw := hr.lt
    have hszr := hU.size
    have HL := Lib.hid hL
    clear hL hW1
    by_cases hlt2 : (l.length : Int) < n
    · have hb3 := (Below.refl wr.heap.size wr).alloc (Nat.le_refl _) (.cells #[.int .i64 2, .int .i64 2, .int .i64 3, .int .i64 2, .int .i64 1] 3)
      go_wp2_with fail
      refine (s_one (hr.below hb3 hlw) (by omega) (litW wr _ [2, 2, 3, 2, 1] rfl) (by simp) (by simp) (.inr hlw) (by simp)).mono ?_
      rintro e w3 ⟨x, rfl, hx, hr3, hu3⟩
      have hx3 : -4 ≤ x ∧ x ≤ 4 := by simp at hx; omega
      have ho3 := (ho.same fun g _ h2 => hb3.block g h2).upd hu3 hlt
      have hU3 := (hU.below hb3 (by omega)).upd hu3
      have hs3 := hU3.size
      clear ho hr hU hu3 hx hb3
      go_wp2_with (first
        | (at_builtin; refine wpList_app1 rfl _ _ rfl w.heap.size _ l rfl ho3 x rfl (by omega) hs3 ?_; intro v4 w4 ho4 hb4)
        | go_in)
      obtain ⟨a4, c4, rfl, _⟩ := ho4.slice
      have hr4 := hr3.below hb4 hlt
      have hU4 := hU3.below hb4 (Nat.le_refl _)
      have HL4 : Hid (LP n.toNat (l ++ [x])) := ⟨by simp; omega, (HL.out.snoc hx3).2⟩
      clear ho3 hr3 hU3 hb4
      go_roundw
      case rel => exact ⟨a4, c4, l ++ [x], rfl, ho4, HL4.out, hr4.mono (by simp; omega), hU4⟩
      case measure => simp [lenV]; omega
    · go_wp2
      go_ret
      exact ⟨a, c, l, rfl, ho, HL.out.mono (by omega), hr.mono (by omega), hU⟩

end Go.Proofs.Ytmmebcjebphfcaa
