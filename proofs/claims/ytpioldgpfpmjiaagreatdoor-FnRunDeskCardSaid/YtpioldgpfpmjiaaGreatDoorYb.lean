/- Walks: MissingOf, CoverageOf, IsCovering. -/
import Derived.Test.YtpioldgpfpmjiaaGreatDoorYa
namespace Go.Proofs.YtpioldgpfpmjiaaGreatDoor
open Go.RowKit


theorem moL_sum {m : List Int} {s : List (List Int)} {t : Int} : sumL (moL m s t) ≤ 5120 := by
  have h1 := sumL_le (n := 5) (mm := moL m s t) fun r hr => by have := moL_row r hr; omega
  have h2 := @moL_len m s t
  omega
theorem moL_gr {m : List Int} {s : List (List Int)} {t : Int} : True ∧ ∀ r ∈ moL m s t, r.length ≤ 4611686018427387904 := ⟨trivial, fun r hr => by have := moL_row r hr; omega⟩
theorem GotII.none {w w' : World} {l : List (List Int)} (h : l = []) (hb : Below w.heap.size w w') : GotII w l (.returned (.slice none 0 0)) w' := by
  subst h
  exact ⟨_, _, rfl, RIIc.nil _ _ _ _ _, hb⟩

set_option maxHeartbeats 1000000 in
theorem i_CoverageOf {m : List Int} {s : List (List Int)} {a a' : Option Addr} {c c' lo hi lo' hi' : Nat} {w : World} {t : Int} (hm : RI w lo hi a m) (hlm : m.length ≤ 9223372036854775807) (hs : RII w lo' hi' a' s) (hls : s.length ≤ 9223372036854775807) (hg : ∀ r ∈ s, r.length ≤ 9223372036854775807) (_ht0 : -9223372036854775808 ≤ t) (_ht1 : t ≤ 9223372036854775807) (hB : hi ≤ w.heap.size) (hB' : hi' ≤ w.heap.size) :
    Calls Tryz.prog 68 #[.slice a m.length c, .slice a' s.length c', .int .i64 t] w (NewV w (.tuple #[.int .i64 (covA m s t), .int .i64 (covB m s t)])) := by
  have HG := Lib.hid hg; clear hg
  cases hc : okC m s t
  · have HC := Lib.hid hc; clear hc
    go_enter Tryz.func68, Tryz.ntmps68
    go_wp2_with fail
    refine (i_canCover hm hlm hs hls HG.out).mono ?_
    rintro e w1 ⟨rfl, hd⟩
    rw [HC.out]
    go_wp2
    go_ret2
    rw [(cov_no HC.out).1, (cov_no HC.out).2]
    exact ⟨rfl, Dr.below hd _⟩
  have hp := okC_parts hc
  have HR := Lib.hid hp.2.2.2
  have hsl := hp.2.2.1
  have ht := hp.2.1
  have HOK := Lib.hid hp.1
  have HLN := Lib.hid (misL_len (s := s) (t := t) hp.1)
  have HLN2 := Lib.hid (patS_len (head := []) hp.1 t)
  have HC := Lib.hid hc; clear hc hp
  go_enter Tryz.func68, Tryz.ntmps68
  go_wp2_with fail
  refine (i_canCover hm hlm hs hls HG.out).mono ?_
  rintro e w1 ⟨rfl, hd⟩
  rw [HC.out]
  have hz1 := Dr.le hd
  have hm1 := hm.dr hd
  have hs1 := hs.dr hd
  go_wp2_with fail
  refine (i_patternsOf HOK.out hm1 (by omega) ht.1 ht.2).mono ?_
  rintro e w2 ⟨v2, rfl, h2, hb2⟩
  obtain ⟨a2, c2, rfl, _⟩ := h2.at
  clear h2
  have hz2 := hb2.size
  have hm2 := hm1.below hb2 (by omega)
  have hs2 := hs1.below hb2 (by omega)
  go_wp2_with fail
  refine (i_missingPatterns HOK.out hm2 (by omega) hs2 (by omega) (by omega) HR.out ht.1 ht.2).mono ?_
  rintro e w3 ⟨v3, rfl, h3, hb3⟩
  obtain ⟨a3, c3, rfl, _⟩ := h3.at
  clear h3
  have hb03 := (Dr.below hd w.heap.size).trans ((hb2.trans (hb3.mono (by omega))).mono (by omega))
  have HL1 := HLN.out
  have HL2 := HLN2.out
  obtain ⟨x, hx⟩ : ∃ x, (misL m s t).length = x := ⟨_, rfl⟩
  obtain ⟨y, hy⟩ : ∃ y, (patS m [] t).length = y := ⟨_, rfl⟩
  have HX := Lib.hid hx
  have HY := Lib.hid hy
  rw [hx] at HL1 ⊢
  rw [hy] at HL2 ⊢
  clear hx hy
  go_wp2
  go_ret2
  rw [(cov_yes HC.out).1, (cov_yes HC.out).2, HX.out, HY.out]
  exact ⟨rfl, hb03⟩

set_option maxHeartbeats 1000000 in
theorem s_CoverageOf {m : List Int} {s : List (List Int)} {a a' : Option Addr} {c c' lo hi lo' hi' : Nat} {w : World} {t : Int} (hm : RI w lo hi a m) (hlm : m.length ≤ 9223372036854775807) (hs : RII w lo' hi' a' s) (hls : s.length ≤ 9223372036854775807) (hg : ∀ r ∈ s, r.length ≤ 9223372036854775807) (_ht0 : -9223372036854775808 ≤ t) (_ht1 : t ≤ 9223372036854775807) (hB : hi ≤ w.heap.size) (hB' : hi' ≤ w.heap.size) :
    Calls Tryz.prog 29 #[.slice a m.length c, .slice a' s.length c', .int .i64 t] w (NewV w (.tuple #[.int .i64 (covA m s t), .int .i64 (covB m s t)])) := by
  have HG := Lib.hid hg; clear hg
  cases hc : okC m s t
  · have HC := Lib.hid hc; clear hc
    go_enter Tryz.func29, Tryz.ntmps29
    go_wp2_with fail
    refine (s_good hm hlm hs hls HG.out).mono ?_
    rintro e w1 ⟨rfl, hd⟩
    rw [HC.out]
    go_wp2
    go_ret2
    rw [(cov_no HC.out).1, (cov_no HC.out).2]
    exact ⟨rfl, Dr.below hd _⟩
  have hp := okC_parts hc
  have HR := Lib.hid hp.2.2.2
  have hsl := hp.2.2.1
  have ht := hp.2.1
  have HOK := Lib.hid hp.1
  have HLN := Lib.hid (misL_len (s := s) (t := t) hp.1)
  have HLN2 := Lib.hid (patS_len (head := []) hp.1 t)
  have hm5 := okM_len hp.1
  have HC := Lib.hid hc; clear hc hp
  go_enter Tryz.func29, Tryz.ntmps29
  go_wp2_with fail
  refine (s_good hm hlm hs hls HG.out).mono ?_
  rintro e w1 ⟨rfl, hd⟩
  rw [HC.out]
  have hz1 := Dr.le hd
  have hbA := (Below.refl w1.heap.size w1).alloc (Nat.le_refl _) (.cells #[] 3)
  have hm1 := (hm.dr hd).below hbA (by omega)
  have hs1 := (hs.dr hd).below hbA (by omega)
  go_wp2_with fail
  refine (s_patterns HOK.out m.length [] a ⟨w1.heap.size, 0, none⟩ c 0 lo hi 0 0 _ t (by simp) hm1 (by simp; omega) (RI.nil _ _ _ _) (by simp) (by omega) (by omega)).mono ?_
  rintro e w2 ⟨a2, c2, rfl, _, hb2⟩
  have hb2 := hbA.trans (hb2.mono (by simp))
  have hz2 := hb2.size
  have hm2 := (hm.dr hd).below hb2 (by omega)
  have hs2 := (hs.dr hd).below hb2 (by omega)
  go_wp2_with fail
  refine (s_missing HOK.out hm2 (by omega) hs2 (by omega) (by omega) HR.out ht.1 ht.2).mono ?_
  rintro e w3 ⟨a3, c3, rfl, _, hb3⟩
  have hb03 := (Dr.below hd w.heap.size).trans ((hb2.trans (hb3.mono (by omega))).mono (by omega))
  have HL1 := HLN.out
  have HL2 := HLN2.out
  obtain ⟨x, hx⟩ : ∃ x, (misL m s t).length = x := ⟨_, rfl⟩
  obtain ⟨y, hy⟩ : ∃ y, (patS m [] t).length = y := ⟨_, rfl⟩
  have HX := Lib.hid hx
  have HY := Lib.hid hy
  rw [hx] at HL1 ⊢
  rw [hy] at HL2 ⊢
  clear hx hy
  go_wp2
  go_ret2
  rw [(cov_yes HC.out).1, (cov_yes HC.out).2, HX.out, HY.out]
  exact ⟨rfl, hb03⟩

end Go.Proofs.YtpioldgpfpmjiaaGreatDoor
