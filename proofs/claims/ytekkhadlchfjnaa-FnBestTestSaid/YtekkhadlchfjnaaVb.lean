/- Walks: BestTest, by the model and by the program. -/
import Derived.Test.YtekkhadlchfjnaaVa
import Derived.Test.YtekkhadlchfjnaaYi
namespace Go.Proofs.Ytekkhadlchfjnaa
open Go.RowKit

/-- a call that makes a slice of numbers, which may be shared -/
def GotI (w : World) (l : List Int) (e : Ending) (w' : World) : Prop :=
  ∃ a c, e = .returned (.slice a l.length c) ∧ RI w' w.heap.size w'.heap.size a l ∧ Below w.heap.size w w'
theorem GotI.none {w w' : World} {l : List Int} (h : l = []) (hb : Below w.heap.size w w') : GotI w l (.returned (.slice none 0 0)) w' := by
  subst h; exact ⟨_, _, rfl, RI.nil _ _ _ _, hb⟩

set_option maxRecDepth 100000 in
set_option maxHeartbeats 1000000 in
theorem s_BestTest {m : List Int} {s : List (List Int)} {a a' : Option Addr} {c c' lo hi lo' hi' : Nat} {w : World} {t : Int} (hm : RI w lo hi a m) (hlm : m.length ≤ 9223372036854775807) (hs : RII w lo' hi' a' s) (hls : s.length ≤ 9223372036854775807) (hg : ∀ r ∈ s, r.length ≤ 9223372036854775807) (_ht0 : -9223372036854775808 ≤ t) (_ht1 : t ≤ 9223372036854775807) (hB : hi ≤ w.heap.size) (hB' : hi' ≤ w.heap.size) :
    Calls Try.prog 39 #[.slice a m.length c, .slice a' s.length c', .int .i64 t] w (GotI w (beL m s t)) := by
  have HG := Lib.hid hg; clear hg
  cases hc : okC m s t
  · have HC := Lib.hid hc; clear hc
    go_enter Try.func39, Try.ntmps39
    go_wp2_with fail
    refine (s_good hm hlm hs hls HG.out).mono ?_
    rintro e w1 ⟨rfl, hd⟩
    rw [HC.out]
    go_wp2
    go_ret
    exact GotI.none (be_no HC.out) (Dr.below hd _)
  have hp := okC_parts hc
  have HR := Lib.hid hp.2.2.2
  have hsl := hp.2.2.1
  have ht := hp.2.1
  have HOK := Lib.hid hp.1
  have hm5 := okM_len hp.1
  have HC := Lib.hid hc; clear hc hp
  have HBE := Lib.hid (be_yes HC.out)
  have HNE := Lib.hid (ext_ne HOK.out)
  have HRow := Lib.hid (ext_row (m := m))
  have HLN := Lib.hid (ext_len HOK.out)
  have HML := Lib.hid (misL_len (s := s) (t := t) HOK.out)
  have HMR := Lib.hid (misL_row (m := m) (s := s) (t := t))
  go_enter Try.func39, Try.ntmps39
  go_wp2_with fail
  refine (s_good hm hlm hs hls HG.out).mono ?_
  rintro e w1 ⟨rfl, hd⟩
  rw [HC.out]
  have hz1 := Dr.le hd
  have hbA := (Below.refl w1.heap.size w1).alloc (Nat.le_refl _) (.cells #[] 3)
  have hm1 := hm.dr hd
  have hm3 := hm1.below hbA (by omega)
  go_wp2_with fail
  refine (s_extend HOK.out m.length [] a ⟨w1.heap.size, 0, none⟩ c 0 lo hi 0 0 _ (by simp) hm3 (by simp; omega) (RI.nil _ _ _ _) (by simp)).mono ?_
  rintro e w2 ⟨ad2, c2, rfl, h2, hb2⟩
  obtain ⟨ps, hps⟩ : ∃ ps, extS m [] = ps := ⟨_, rfl⟩
  rw [hps] at h2 HNE HRow HLN HBE ⊢
  clear hps
  have hb02 : Below w1.heap.size w1 w2 := hbA.trans (hb2.mono (by simp))
  have hs2 := hb02.size
  have hall : RII w2 w1.heap.size w2.heap.size (some ad2) ps := h2.rii.wide (by simp) (Nat.le_refl _)
  have hpl := HLN.out
  clear h2 hb2 hbA hm3
  go_wp2_with fail
  refine (s_missing HOK.out (hm1.below hb02 (by omega)) (by omega) ((hs.dr hd).below hb02 (by omega)) (by omega) (by omega) HR.out ht.1 ht.2).mono ?_
  rintro e w3 ⟨a3, c3, rfl, h3, hb3⟩
  have hs3 := hb3.size
  have hall3 := hall.below hb3 (Nat.le_refl _)
  have hml := HML.out
  obtain ⟨q, hq⟩ : ∃ q, misL m s t = q := ⟨_, rfl⟩
  rw [hq] at h3 hml HMR HBE ⊢
  clear hq HML
  go_wp2_with fail
  refine (s_bestTest hall3 h3.rii HNE.out (by omega) (by omega) HRow.out (fun p hp => by have := HMR.out p hp; omega) (by omega)).mono ?_
  rintro e w4 ⟨a4, c4, rfl, h4, h4l, _, hd4⟩
  have hz4 := Dr.le hd4
  go_wp2
  go_ret
  rw [HBE.out]
  refine ⟨a4, c4, by rw [h4l]; rfl, h4.wide (by omega) (by omega), ?_⟩
  exact bnext (Dr.below hd _) ((hb02.trans (hb3.mono hs2)).trans ((Dr.below hd4 _)))

set_option maxRecDepth 100000 in
set_option maxHeartbeats 1000000 in
theorem i_BestTest {m : List Int} {s : List (List Int)} {a a' : Option Addr} {c c' lo hi lo' hi' : Nat} {w : World} {t : Int} (hm : RI w lo hi a m) (hlm : m.length ≤ 9223372036854775807) (hs : RII w lo' hi' a' s) (hls : s.length ≤ 9223372036854775807) (hg : ∀ r ∈ s, r.length ≤ 9223372036854775807) (_ht0 : -9223372036854775808 ≤ t) (_ht1 : t ≤ 9223372036854775807) (hB : hi ≤ w.heap.size) (hB' : hi' ≤ w.heap.size) :
    Calls Try.prog 38 #[.slice a m.length c, .slice a' s.length c', .int .i64 t] w (NewI w (beL m s t)) := by
  have HG := Lib.hid hg; clear hg
  cases hc : okC m s t
  · have HC := Lib.hid hc; clear hc
    go_enter Try.func38, Try.ntmps38
    go_wp2_with fail
    refine (i_canCover hm hlm hs hls HG.out).mono ?_
    rintro e w1 ⟨rfl, hd⟩
    rw [HC.out]
    go_wp2
    go_ret
    exact NewI.none (be_no HC.out) (Dr.below hd _)
  have hp := okC_parts hc
  have HR := Lib.hid hp.2.2.2
  have hsl := hp.2.2.1
  have ht := hp.2.1
  have HOK := Lib.hid hp.1
  have hm5 := okM_len hp.1
  have HC := Lib.hid hc; clear hc hp
  have HBE := Lib.hid (be_yes HC.out)
  have HNE := Lib.hid (ext_ne HOK.out)
  have HRow := Lib.hid (ext_row (m := m))
  have HML := Lib.hid (misL_len (s := s) (t := t) HOK.out)
  have HMR := Lib.hid (misL_row (m := m) (s := s) (t := t))
  go_enter Try.func38, Try.ntmps38
  go_wp2_with fail
  refine (i_canCover hm hlm hs hls HG.out).mono ?_
  rintro e w1 ⟨rfl, hd⟩
  rw [HC.out]
  have hz1 := Dr.le hd
  have hm1 := hm.dr hd
  go_wp2_with fail
  refine (i_testsOf (w := w1)).mono ?_
  rintro e w2 ⟨rfl, hw2⟩
  have hbx : w2.heap[w1.heap.size]? = some (.cells #[.slice a m.length c] 23 (0, 0)) := by rw [hw2]; exact heap_alloc_new _ _
  have hb2 : Below w1.heap.size w1 w2 := by rw [hw2]; exact (Below.refl _ w1).alloc (Nat.le_refl _) _
  have hz2 : w2.heap.size = w1.heap.size + 1 := by rw [hw2]; simp
  clear hw2
  have hseq := testsOf1_seq (n₀ := w2.heap.size) HOK.out (hm1.below hb2 (by omega)) (by omega) hbx (by omega) (Nat.le_refl _)
  have HSEQ := Lib.hid hseq
  clear hseq
  go_wp2_with fail
  refine (i_missingPatterns HOK.out (hm1.below hb2 (by omega)) (by omega) ((hs.dr hd).below hb2 (by omega)) (by omega) (by omega) HR.out ht.1 ht.2).mono ?_
  rintro e w3 ⟨v3, rfl, hown, hb3⟩
  have hz3 := hb3.size
  obtain ⟨q, hq⟩ : ∃ q, misL m s t = q := ⟨_, rfl⟩
  obtain ⟨xs, hxs⟩ : ∃ xs, extS m [] = xs := ⟨_, rfl⟩
  rw [hq] at hown HML HMR HBE
  rw [hxs] at HSEQ HNE HRow HBE
  clear hq hxs
  have hml := HML.out
  have hbe : bstL (fun x => met5 q (at5 x)) xs = bstL (frP q) xs := bstL_congr fun x hx => met_fr (by have := HRow.out x hx; omega) fun p hp => by rw [HMR.out p hp, HRow.out x hx]
  have hbl : (bstL (frP q) xs).length = m.length := HRow.out _ (bstL_mem _ HNE.out)
  have HBB := Lib.hid hbe
  have HBL := Lib.hid hbl
  clear hbe hbl
  obtain ⟨av3, cv3, rfl, _⟩ := hown.at
  go_wp2_with fail
  refine (i_bestOf (enters_of Try.func156 (by kernel_rfl) rfl) HSEQ.out (by omega) (Nat.zero_le _) hb3 hown (Below.refl _ _) (fun k _ _ => .inr (Nat.zero_le _)) (by omega)).mono ?_
  rintro e w4 ⟨rfl, hu4⟩
  rw [HBB.out]
  have hb4 : Below w3.heap.size w3 w4 := ⟨hu4.os, hu4.tape, hu4.output, hu4.size, fun k hk => hu4.block k hk (.inr (Nat.zero_le _))⟩
  clear hu4
  have hz4 := hb4.size
  obtain ⟨x, hx⟩ : ∃ x, bstL (frP q) xs = x := ⟨_, rfl⟩
  rw [hx] at HBL HBE ⊢
  clear hx
  obtain ⟨n, hn⟩ : ∃ n, m.length = n := ⟨_, rfl⟩
  have hn5 : n ≤ 5 := by omega
  have hn1 : 1 ≤ n := by omega
  have HN := Lib.hid hn
  have hsl5 := fun b wx => slice5 b n hn5 wx
  have hxn := Lib.hid (HBL.out.trans hn)
  have hbW := Dr.below hd w.heap.size
  rw [hn]
  clear hn hm1 hm hs hown hbx
  have hbx := ri_box (heap_alloc_new w4 (.cells #[.int .i64 (at5 x 0), .int .i64 (at5 x 1), .int .i64 (at5 x 2), .int .i64 (at5 x 3), .int .i64 (at5 x 4)] 72)) (by have := hxn.out; omega)
  have hbA : Below w.heap.size w (w4.alloc (.cells #[.int .i64 (at5 x 0), .int .i64 (at5 x 1), .int .i64 (at5 x 2), .int .i64 (at5 x 3), .int .i64 (at5 x 4)] 72)) := (hbW.trans ((hb2.trans ((hb3.trans (hb4.mono (by omega))).mono (by omega))).mono (by omega))).alloc (by omega) _
  have hx0 : Hid (x ≠ []) := by intro h; have := hxn.out; rw [h] at this; simp at this; omega
  clear hb2 hb3 hb4 hbW
  go_wp2_with fail
  refine (x_CloneN hxn.out hbx (by simp) hx0.out (by omega)).mono ?_
  rintro e w5 ⟨a6, c6, rfl, h6, hb6⟩
  go_wp2
  go_ret
  rw [HBE.out]
  have hz6 := hb6.size
  simp at hz6
  refine ⟨a6, c6, by rw [hxn.out]; rfl, ⟨h6.oi.wide (by simp; omega) (Nat.le_refl _), by have := h6.cap; omega⟩, hbA.trans (hb6.mono (by simp; omega))⟩

end Go.Proofs.Ytekkhadlchfjnaa
