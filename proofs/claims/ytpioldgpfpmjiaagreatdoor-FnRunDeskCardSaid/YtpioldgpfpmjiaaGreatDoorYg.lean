/- Walks: the best test, and suites that grow, by the model. -/
import Derived.Test.YtpioldgpfpmjiaaGreatDoorYc
import Derived.Test.YtpioldgpfpmjiaaGreatDoorWy
import Derived.Test.YtpioldgpfpmjiaaGreatDoorYd
import Derived.Test.YtpioldgpfpmjiaaGreatDoorMath
namespace Go.Proofs.YtpioldgpfpmjiaaGreatDoor
open Go.RowKit

theorem s_freshN {ps : List (List Int)} {x : List Int} {a a' : Option Addr} {c c' lo hi lo' hi' n q : Nat} {w : World} (hn : x.length = n) (hq : frP ps x = q) (hp : RII w lo hi a ps) (hx : RI w lo' hi' a' x) (hl : ps.length ≤ 1048576) (hxl : n ≤ 1048576) (hr : ∀ p ∈ ps, p.length ≤ n) :
    Calls Tryz.prog 64 #[.slice a ps.length c, .slice a' n c'] w (RO w (.int .i64 (q : Int))) := by
  subst hn hq
  exact s_fresh hp hx hl hxl hr
theorem RII.drewN {w : World} {lo hi : Nat} {a : Option Addr} {m : List (List Int)} (h : RII w lo hi a m) (n : Nat) : RII (w.drewN n) lo hi a m := h
theorem frP_leL (ps : List (List Int)) (x : List Int) : frP ps x ≤ ps.length := List.countP_le_length

set_option maxRecDepth 100000 in
set_option maxHeartbeats 2000000 in
theorem s_bestTest {all ps : List (List Int)} {a a' : Option Addr} {c c' lo hi lo' hi' n : Nat} {w : World} (hA : RII w lo hi a all) (hP : RII w lo' hi' a' ps) (hne : all ≠ []) (hl : all.length ≤ 1048576) (hpl : ps.length ≤ 1048576) (hr : ∀ x ∈ all, x.length = n) (hp : ∀ p ∈ ps, p.length ≤ n) (hn : n ≤ 1048576) :
    Calls Tryz.prog 53 #[.slice a all.length c, .slice a' ps.length c'] w (fun e w' => ∃ a1 c1, e = .returned (.slice a1 n c1) ∧ RI w' lo hi a1 (bstL (frP ps) all) ∧ (bstL (frP ps) all).length = n ∧ n ≤ c1 ∧ Dr w w') := by
  have HR := Lib.hid hr
  have HP := Lib.hid hp
  have hlen : 0 < all.length := by cases all with | nil => exact absurd rfl hne | cons _ _ => simp
  obtain ⟨b0, o0, a0, c0, r0, ha0, _, _, hcell0, hr0, hx0, hcp0⟩ := hA.atc hlen
  have hidx0 : ∀ wx : World, (Instr.indexAt 49 (.slice a all.length c) (.int .i64 0)).run Tryz.prog wx = .ok (.pointer (some ⟨b0, o0, none⟩)) wx := fun wx => idxII ha0 hlen c wx
  rw [Nat.add_zero] at hcell0
  have HL0 := Lib.hid (HR.out r0 (List.mem_of_getElem? hx0.out))
  rw [HL0.out] at hcell0 hcp0
  have hst : Hid (bstL (frP ps) (all.take 1) = r0) := by show _ = _; rw [take_snoc (k := 0) hx0.out]; simp [bstL_one]
  clear hr hp hne ha0
  go_enter Tryz.func53, Tryz.ntmps53
  go_wp2
  clear hcell0 hidx0
  go_loopw [5, 6] (fun v i wr => ∃ (k : Nat) (ab : Option Addr) (cb : Nat) (x : List Int), 1 ≤ k ∧ k ≤ all.length ∧ i = .int .i64 k ∧ v = .slice ab n cb ∧ RI wr lo hi ab x ∧ Hid (x = bstL (frP ps) (all.take k) ∧ x.length = n) ∧ n ≤ cb ∧ Dr w wr) (fun _ i _ => all.length - (intOf i).toNat)
  case atStart => exact ⟨1, a0, c0, r0, Nat.le_refl _, hlen, rfl, rfl, hr0, ⟨hst.out.symm, HL0.out⟩, hcp0, Dr.refl _⟩
  case round =>
    clear hr0
    obtain ⟨k, ab, cb, x, hk1, hk, rfl, rfl, hb, hX, hcb, hd⟩ := hrel
    by_cases hlt : k < all.length
    · obtain ⟨b, o, a1, c1, r, ha, _, hbh, hcell, hr1, hx, hcp⟩ := (hA.dr hd).atc hlt
      have hidx := idxII ha hlt c
      have hbs : b < wr.heap.size := World.block_lt_of_cell? wr _ hcell
      have HRL := Lib.hid (HR.out r (List.mem_of_getElem? hx.out))
      rw [HRL.out] at hcell hcp
      have hPd := hP.dr hd
      obtain ⟨fr, hfr⟩ : ∃ q, frP ps r = q := ⟨_, rfl⟩
      obtain ⟨fb, hfb⟩ : ∃ q, frP ps x = q := ⟨_, rfl⟩
      have HFR := Lib.hid hfr
      have HFB := Lib.hid hfb
      have HT := Lib.hid (bstL_snoc (frP ps) (all := all.take k) r (by intro e; rw [List.take_eq_nil_iff] at e; rcases e with e | e; omega; rw [e] at hlt; simp at hlt))
      have HX := Lib.hid hx.out
      clear hfr hfb ha hx
      by_cases hgt : (fb : Int) < (fr : Int)
      · have HX2 : Hid (r = bstL (frP ps) (all.take (k + 1)) ∧ r.length = n) := by
          refine ⟨?_, HRL.out⟩
          rw [take_snoc HX.out, HT.out, ← hX.out.1, btr_yes]
          rw [HFR.out, HFB.out]; omega
        go_wp2_with fail
        refine (s_freshN HRL.out HFR.out hPd hr1 hpl hn HP.out).mono ?_
        rintro e w1 ⟨rfl, hd1⟩
        have hcell1 := ((Dr.below hd1 wr.heap.size).cell (p := ⟨b, o + k, none⟩) hbs).trans hcell
        go_wp2_with fail
        refine (s_freshN hX.out.2 HFB.out (hPd.dr hd1) (hb.dr hd1) hpl hn HP.out).mono ?_
        rintro e w2 ⟨rfl, hd2⟩
        have hcell2 := ((Dr.below hd2 wr.heap.size).cell (p := ⟨b, o + k, none⟩) hbs).trans hcell1
        have hd2 := Dr.trans hd1 hd2
        clear hcell hcell1 hd1
        go_wp2
        go_roundw
        case rel => exact ⟨k + 1, a1, c1, r, by omega, by omega, by go_num, rfl, hr1.dr hd2, HX2, hcp, Dr.trans hd hd2⟩
        case measure => simp [intOf]; omega
      · have HX2 : Hid (x = bstL (frP ps) (all.take (k + 1)) ∧ x.length = n) := by
          refine ⟨?_, hX.out.2⟩
          rw [take_snoc HX.out, HT.out, ← hX.out.1, btr_no]
          rw [HFR.out, HFB.out]; omega
        go_wp2_with fail
        refine (s_freshN HRL.out HFR.out hPd hr1 hpl hn HP.out).mono ?_
        rintro e w1 ⟨rfl, hd1⟩
        have hcell1 := ((Dr.below hd1 wr.heap.size).cell (p := ⟨b, o + k, none⟩) hbs).trans hcell
        go_wp2_with fail
        refine (s_freshN hX.out.2 HFB.out (hPd.dr hd1) (hb.dr hd1) hpl hn HP.out).mono ?_
        rintro e w2 ⟨rfl, hd2⟩
        have hcell2 := ((Dr.below hd2 wr.heap.size).cell (p := ⟨b, o + k, none⟩) hbs).trans hcell1
        have hd2 := Dr.trans hd1 hd2
        clear hcell hcell1 hd1
        go_wp2
        go_roundw
        case rel => exact ⟨k + 1, ab, cb, x, by omega, by omega, by go_num, rfl, hb.dr hd2, HX2, hcb, Dr.trans hd hd2⟩
        case measure => simp [intOf]; omega
    · have HKE : Hid (all.take k = all) := List.take_of_length_le (by omega)
      go_wp2
      go_ret
      have h9 := hX.out
      rw [HKE.out] at h9
      exact ⟨ab, cb, rfl, h9.1 ▸ hb, h9.1 ▸ h9.2, hcb, hd⟩

/-- slices of numbers that lie in blocks lo ≤ b < hi; the slice that holds them lies in a block of which P holds -/
def RIO (w : World) (P : Nat → Prop) (lo hi : Nat) (a : Option Addr) (mm : List (List Int)) : Prop :=
  ∀ k, k < mm.length → ∃ b o a' c' r, a = some ⟨b, o, none⟩ ∧ P b ∧ mm[k]? = some r ∧ w.cell? ⟨b, o + k, none⟩ = some (.slice a' r.length c') ∧ RI w lo hi a' r ∧ r.length ≤ c'
theorem RIO.at {w : World} {P : Nat → Prop} {lo hi : Nat} {a : Option Addr} {mm : List (List Int)} (h : RIO w P lo hi a mm) {k : Nat} (hk : k < mm.length) :
    ∃ b o a' c' r, a = some ⟨b, o, none⟩ ∧ P b ∧ w.cell? ⟨b, o + k, none⟩ = some (.slice a' r.length c') ∧ RI w lo hi a' r ∧ Hid (mm[k]? = some r) ∧ r.length ≤ c' := by
  obtain ⟨b, o, a', c', r, h1, h2, h4, h5, h6, h7⟩ := h k hk
  exact ⟨b, o, a', c', r, h1, h2, h5, h6, h4, h7⟩
theorem RIO.ofRII {w : World} {P : Nat → Prop} {lo hi : Nat} {a : Option Addr} {mm : List (List Int)} (h : RII w lo hi a mm) (hP : ∀ b, lo ≤ b → b < hi → P b) : RIO w P lo hi a mm := by
  intro k hk
  obtain ⟨b, o, a', c', r, h1, h2, h3, h4, h5, h6, h7⟩ := h k hk
  exact ⟨b, o, a', c', r, h1, hP b h2 h3, h4, h5, h6, h7⟩
theorem RIO.same {w w' : World} {P P' : Nat → Prop} {lo hi : Nat} {a : Option Addr} {mm : List (List Int)} (h : RIO w P lo hi a mm) (hb : ∀ b, P b → P' b ∧ w'.heap[b]? = w.heap[b]?) (hr : ∀ b, lo ≤ b → b < hi → w'.heap[b]? = w.heap[b]?) : RIO w' P' lo hi a mm := by
  intro k hk
  obtain ⟨b, o, a', c', r, h1, h2, h4, h5, h6, h7⟩ := h k hk
  exact ⟨b, o, a', c', r, h1, (hb b h2).1, h4, (World.cell?_of_block (w := w) (hb b h2).2).trans h5, h6.same hr, h7⟩
theorem RIO.rii {w : World} {P : Nat → Prop} {lo hi B : Nat} {a : Option Addr} {mm : List (List Int)} (h : RIO w P lo hi a mm) (hP : ∀ b, P b → b < B) (hh : hi ≤ B) : RII w 0 B a mm := by
  intro k hk
  obtain ⟨b, o, a', c', r, h1, h2, h4, h5, h6, h7⟩ := h k hk
  exact ⟨b, o, a', c', r, h1, Nat.zero_le _, hP b h2, h4, h5, h6.wide (Nat.zero_le _) hh, h7⟩
/-- a block that is there and is not the one of v -/
def Off (w : World) (v : Value) (b : Nat) : Prop := b < w.heap.size ∧ v.ownBlock ≠ some b
theorem OwnRR.rio {w : World} {B lo hi : Nat} {v : Value} {mm : List (List Int)} {P : Nat → Prop} (h : OwnRR w B lo hi v mm) (hP : ∀ b, B ≤ b → b < w.heap.size → P b) : ∃ a c, v = .slice a mm.length c ∧ RIO w P lo hi a mm ∧ mm.length ≤ c := by
  have hlt := h.lt
  obtain ⟨xs, h1, h2, h3⟩ := h
  rcases h1.2 with ⟨rfl, h0⟩ | ⟨g, cap, cur, rfl, hb, hg, hn, hm, hx, ht⟩
  · have e : mm = [] := List.eq_nil_of_length_eq_zero h0
    subst e
    exact ⟨none, 0, rfl, fun k hk => by simp at hk, by simp⟩
  · refine ⟨_, _, rfl, fun k hk => ?_, hn⟩
    obtain ⟨r, hr⟩ := at_of_lt hk
    obtain ⟨a, c, e1, e2, e3⟩ := h2 k r hr
    refine ⟨g, 0, a, c, r, rfl, hP g hb (hlt g rfl).2, hr, ?_, e2, e3⟩
    rw [Nat.zero_add, cell_of_row w g k cur _ (0, 0) hg]
    rw [← ht, List.getElem?_take] at e1
    split at e1
    · simpa using e1
    · cases e1
theorem Off.grown {w w1 w' : World} {v v' : Value} {b : Nat} (h : Off w v b) (hb : Below w.heap.size w w1) (g2 : w1.grownBy w' v.ownBlock) (g4 : v'.ownBlock = v.ownBlock ∨ v'.ownBlock = some w1.heap.size) : Off w' v' b ∧ w'.heap[b]? = w.heap[b]? := by
  have hs := hb.size
  have hs2 := g2.size
  refine ⟨⟨by have := h.1; omega, ?_⟩, ?_⟩
  · rcases g4 with g4 | g4
    · rw [g4]; exact h.2
    · rw [g4]; intro e; cases e; have := h.1; omega
  · rw [g2.block b (by have := h.1; omega) fun e => h.2 e.symm]
    exact hb.block b h.1

theorem grS_out {all : List (List Int)} {n : Nat} {out left : List (List Int)} (h : left = [] ∨ n = 0) : grS all n out left = out := by
  rcases h with h | h
  · subst h; exact grS_done _ _ _
  · subst h; rfl

end Go.Proofs.YtpioldgpfpmjiaaGreatDoor
