/- Walks: what FnFuseLevels draws; facts on levels that are made one. -/
import Derived.Test.YtcdhahdobegagaaRt
import Derived.Test.YtcdhahdobegagaaYf
import Derived.Test.YtcdhahdobegagaaYm
namespace Go.Proofs.Ytcdhahdobegagaa
open Go.RowKit

/-- elementwise: a list fits a model -/
theorem okW_mk {lo : Int} {m t : List Int} (hl : t.length = m.length) (h : ∀ (k : Nat) (x y : Int), t[k]? = some x → m[k]? = some y → lo ≤ x ∧ x < y) : okW lo m t = true := by
  unfold okW
  rw [Bool.and_eq_true, decide_eq_true_eq, List.all_eq_true]
  refine ⟨hl, fun z hz => ?_⟩
  obtain ⟨k, hk⟩ := List.getElem?_of_mem hz
  rw [List.getElem?_zip_eq_some] at hk
  have h1 := h k _ _ hk.1 hk.2
  exact inR_true.2 (by omega)
theorem mB_mk {p r : List Int} (h : ∀ (k : Nat) (x y : Int), p[k]? = some x → r[k]? = some y → x = -1 ∨ x = y) : mB p r = true := by
  unfold mB
  rw [List.all_eq_true]
  intro z hz
  obtain ⟨k, hk⟩ := List.getElem?_of_mem hz
  rw [List.getElem?_zip_eq_some] at hk
  have h1 := h k _ _ hk.1 hk.2
  simpa using h1
theorem mB_at {p r : List Int} (h : mB p r = true) {k : Nat} {x y : Int} (hx : p[k]? = some x) (hy : r[k]? = some y) : x = -1 ∨ x = y := by
  unfold mB at h
  rw [List.all_eq_true] at h
  have h1 : (p.zip r)[k]? = some (x, y) := by rw [List.getElem?_zip_eq_some]; exact ⟨hx, hy⟩
  simpa using h _ (List.mem_of_getElem? h1)
theorem lvl_iff {x : Int} : lvl x = true ↔ 1 ≤ x ∧ x ≤ 3 := by
  have h := @okM_at [x]
  constructor
  · intro hl
    exact okM_at (m := [x]) (k := 0) (okM_mk (by simp) (by simp) (by simpa using hl)) rfl
  · intro hl
    unfold lvl
    simp [inR]
    omega
theorem fuse_law {m : List Int} {s : List (List Int)} {f x : Int} (h : fuB m s f x = true) : ∃ (fn : Nat) (y : Int), f = fn ∧ fn < m.length ∧ m[fn]? = some y ∧ (1 ≤ y ∧ y ≤ 3) ∧ okM (m.set fn (y - 1)) = true ∧ okS (m.set fn (y - 1)) (fuL m s f x) = true ∧ (fuL m s f x).length = s.length ∧
    ∀ t : Int, icB m s t = true → icB (m.set fn (y - 1)) (fuL m s f x) t = true := by
  have h0 := (fu_yes h).1
  unfold fuB at h
  simp only [Bool.and_eq_true] at h
  obtain ⟨⟨⟨hM, hS⟩, hf⟩, hx⟩ := h
  rw [inR_true] at hf hx
  obtain ⟨fn, rfl⟩ := Int.eq_ofNat_of_zero_le hf.1
  have hfl : fn < m.length := by omega
  obtain ⟨y, hy⟩ := at_of_lt hfl
  have e : m.getD (fn : Int).toNat 0 = y := by simp [List.getD, hy]
  have ef : (fn : Int).toNat = fn := by simp
  rw [ef] at e h0
  rw [ef] at hx
  rw [e] at h0 hx
  have hy3 := okM_at hM hy
  have hm5 := okM_len hM
  have hM2 : okM (m.set fn (y - 1)) = true := by
    refine okM_mk (by simp; omega) (by simp; omega) ?_
    rw [List.all_eq_true]
    intro z hz
    rw [lvl_iff]
    rcases List.mem_or_eq_of_mem_set hz with h1 | h1
    · obtain ⟨k, hk⟩ := List.getElem?_of_mem h1
      exact okM_at hM hk
    · omega
  have hat : ∀ (r : List Int), r ∈ s → okT (m.set fn (y - 1)) (fuF y x fn r) = true := by
    intro r hr
    have h1 := okS_all hS hr
    have h2 := okW_len h1
    refine okW_mk (by rw [fuF_len]; simp [h2]) fun k a b ha hb => ?_
    obtain ⟨z, hz⟩ := at_of_lt (show fn < r.length by omega)
    by_cases hzy : z = y - 1
    · rw [fuF_hit hz hzy] at ha
      by_cases hk : k = fn
      · subst hk
        rw [List.getElem?_set_self (by omega)] at ha hb
        cases ha; cases hb
        omega
      · rw [List.getElem?_set_ne (by omega)] at ha hb
        exact okW_at h1 ha hb
    · rw [fuF_miss hz hzy] at ha
      by_cases hk : k = fn
      · subst hk
        rw [List.getElem?_set_self (by omega)] at hb
        cases hb
        have h3 := okW_at h1 ha hy
        rw [hz] at ha; cases ha
        omega
      · rw [List.getElem?_set_ne (by omega)] at hb
        exact okW_at h1 ha hb
  have hS2 : okS (m.set fn (y - 1)) (fuL m s fn x) = true := by
    rw [h0]
    unfold okS
    rw [Bool.and_eq_true, List.all_eq_true, decide_eq_true_eq]
    refine ⟨fun r hr => ?_, by rw [List.length_map]; exact okS_len hS⟩
    obtain ⟨r', hr', rfl⟩ := List.mem_map.1 hr
    exact hat r' hr'
  refine ⟨fn, y, rfl, hfl, hy, hy3, hM2, hS2, by rw [h0, List.length_map], fun t ht => ?_⟩
  have hC : okC m s t = true := by
    cases hc : okC m s t
    · rw [ic_no hc] at ht; cases ht
    · rfl
  have hC2 : okC (m.set fn (y - 1)) (fuL m s fn x) t = true := by
    have h1 := okC_parts hC
    unfold okC
    rw [hM2, hS2, inR_true.2 (by simp; omega)]; rfl
  rw [ic_yes hC, beq_iff_eq] at ht
  rw [ic_yes hC2, beq_iff_eq]
  have hnil : misL m s t = [] := List.eq_nil_of_length_eq_zero (by omega)
  suffices hs : misL (m.set fn (y - 1)) (fuL m s fn x) t = [] by rw [hs]; rfl
  unfold misL misP at hnil ⊢
  rw [List.filter_eq_nil_iff] at hnil ⊢
  intro p hp hn
  have hp2 := (mem_patS hM2).1 hp
  have hpl := okW_len hp2.1
  rw [List.length_set] at hpl
  have hpm : okP m p = true := by
    refine okW_mk hpl fun k a b ha hb => ?_
    by_cases hk : k = fn
    · subst hk
      have h3 := okW_at (y := y - 1) hp2.1 ha (by rw [List.getElem?_set_self (by omega)])
      rw [hy] at hb; cases hb
      omega
    · exact okW_at hp2.1 ha (by rw [List.getElem?_set_ne (by omega)]; exact hb)
  have hh := hnil p ((mem_patS hM).2 ⟨hpm, hp2.2⟩)
  have hh2 : hasP s p = true := by simpa using hh
  unfold hasP at hh2
  rw [List.any_eq_true] at hh2
  obtain ⟨r, hr, hmr⟩ := hh2
  have hn2 : hasP (fuL m s fn x) p = false := by simpa using hn
  unfold hasP at hn2
  rw [List.any_eq_false] at hn2
  refine hn2 (fuF y x fn r) (by rw [h0]; exact List.mem_map_of_mem hr) ?_
  have h1 := okS_all hS hr
  have h2 := okW_len h1
  obtain ⟨z, hz⟩ := at_of_lt (show fn < r.length by omega)
  by_cases hzy : z = y - 1
  · rw [fuF_hit hz hzy]
    refine mB_mk fun k a b ha hb => ?_
    by_cases hk : k = fn
    · subst hk
      have h3 := okW_at (y := y - 1) hp2.1 ha (by rw [List.getElem?_set_self (by omega)])
      have h4 := mB_at hmr ha hz
      left; omega
    · rw [List.getElem?_set_ne (by omega)] at hb
      exact mB_at hmr ha hb
  · rw [fuF_miss hz hzy]; exact hmr

/-- a list, a suite and two numbers that a law has drawn -/
def DrQ (w : World) (e : Ending) (w' : World) : Prop := ∃ (a1 : Option Addr) (c1 : Nat) (m : List Int) (a2 : Option Addr) (c2 : Nat) (s : List (List Int)) (f x : Int), e = .returned (.tuple #[.slice a1 m.length c1, .slice a2 s.length c2, .int .i64 f, .int .i64 x]) ∧ (Got w w' 10 a1 c1 m ∧ GotS w w' 12 a2 c2 s ∧ (-1 ≤ f ∧ f ≤ 4) ∧ -1 ≤ x ∧ x ≤ 1) ∧ Below w.heap.size w w'

set_option maxRecDepth 100000 in
set_option maxHeartbeats 2000000 in
theorem s_DrawFuseLevels {n : Nat} {a : Option Addr} {c : Nat} {w : World} (hm : RB w w.heap.size a n) (hc : n ≤ c) (hl : n ≤ 1048576) :
    Calls Try.prog 66 #[.slice a n c] w (DrQ w) := by
  go_enter Try.func66, Try.ntmps66
  go_wp2_with fail
  refine (s_newReader hm hc hl).mono ?_
  rintro e w1 ⟨rfl, hr1, hb1⟩
  have hlt := hr1.lt
  go_wp2_with fail
  refine (s_goodModel hr1 (by omega)).mono ?_
  rintro e w2 ⟨a2, c2, m2, rfl, ho2, hL2, hr2, hU2⟩
  go_wp2_with fail
  refine (s_bentModel hr2 (by omega) ho2 rfl hL2 (by omega) hlt hU2.size).mono ?_
  rintro e w3 ⟨a3, c3, m3, rfl, ho3, hL3, hr3, hU3⟩
  have hU := hU2.trans hU3
  have hcap := ho3.cap.2
  have hs3 := hU.size
  clear ho2 hL2 hr2 hU2 hU3 hr1
  go_wp2_with fail
  refine (s_someSuite hr3 ho3 rfl hlt hs3 hL3 (by omega) (by omega)).mono ?_
  rintro e w4 ⟨a4, c4, s, rfl, ho4, hS4, hr4, hm4, hU4⟩
  have hs4 := hU4.size
  obtain ⟨a5, c5, e5, hR⟩ := ho4.riic
  cases e5
  have hUU := hU.trans hU4
  clear ho3 hr3 hU hU4 ho4
  have hlt4 : w.heap.size < w4.heap.size := by omega
  have hb4 := (Below.refl w4.heap.size w4).alloc (Nat.le_refl _) (.cells #[.int .i64 0, .int .i64 1, .int .i64 2, .int .i64 4, .int .i64 (-1)] 3)
  have hr4b := hr4.below hb4 hlt4
  go_wp2_with fail
  refine (s_one hr4b (by omega) (litW w4 _ [0, 1, 2, 4, -1] rfl) (by simp) (by simp) (.inr hlt4) (by simp)).mono ?_
  rintro e w5 ⟨f, rfl, hf, hr5, hu5⟩
  have hf5 : -1 ≤ f ∧ f ≤ 4 := by simp at hf; omega
  have hU5 := ((UpB.refl w.heap.size w4.heap.size w4).below hb4 (Nat.le_refl _)).upd hu5
  have hs5 := hU5.size
  have hm5 := hm4.upB hU5 (Nat.le_refl _) (Nat.le_refl _) hlt
  have hR5 : RIIc w5 w3.heap.size w4.heap.size a4 c4 s := ⟨hR.rii.same fun k h1 h2 => hU5.block k h2 h2 (by omega), hR.cap⟩
  have hU6 := hUU.trans (hU5.less (show w1.heap.size ≤ w4.heap.size by omega))
  clear hm4 hR hUU hU5 hr4 hf hb4 hu5 hr4b
  have hlt5 : w.heap.size < w5.heap.size := by omega
  have hb5 := (Below.refl w5.heap.size w5).alloc (Nat.le_refl _) (.cells #[.int .i64 0, .int .i64 0, .int .i64 1, .int .i64 (-1)] 3)
  have hr5b := hr5.below hb5 hlt5
  go_wp2_with fail
  refine (s_one hr5b (by omega) (litW w5 _ [0, 0, 1, -1] rfl) (by simp) (by simp) (.inr hlt5) (by simp)).mono ?_
  rintro e w6 ⟨x, rfl, hx, hr6, hu6⟩
  have hx6 : -1 ≤ x ∧ x ≤ 1 := by simp at hx; omega
  have hU7 := ((UpB.refl w.heap.size w5.heap.size w5).below hb5 (Nat.le_refl _)).upd hu6
  have hs6 := hU7.size
  have hm6 := hm5.upB hU7 hs5 hs5 hlt
  have hR6 : RIIc w6 w3.heap.size w4.heap.size a4 c4 s := ⟨hR5.rii.same fun k h1 h2 => hU7.block k (by omega) (by omega) (by omega), hR5.cap⟩
  have hU8 := hU6.trans (hU7.less (show w1.heap.size ≤ w5.heap.size by omega))
  clear hm5 hR5 hU6 hU7 hr5 hx hb5 hu6 hr5b
  go_wp2
  (try simp only [Exit.inBlock, Exit.then])
  refine bodyPost_ret (results_tmp4 rfl _ _ _) rfl ?_
  exact ⟨_, _, m3, _, _, s, f, x, rfl, ⟨⟨hm6.wide (by omega) (by omega), hL3, hcap⟩, ⟨hR6.wide (by omega) (by omega), hS4⟩, hf5, hx6⟩, hb1.trans (hU8.toBelow (by omega) (by omega))⟩

theorem bset2 {B : Nat} {w w1 : World} {p : Addr} {v : Value} (h : Below B w w1) (hp : B ≤ p.block) : Below B w (w1.setCell p v) :=
  ⟨h.os, h.tape, h.output, by simp [World.setCell]; exact h.size, fun k hk => (Below.heap_setCell _ _ _ _ (by omega)).trans (h.block k hk)⟩
theorem bset2_size {w1 : World} {p : Addr} {v : Value} : w1.heap.size ≤ (w1.setCell p v).heap.size ∧ (w1.setCell p v).heap.size ≤ w1.heap.size := by simp [World.setCell]

/- Walks: a list without one of its numbers, as the laws make it; what FnDropFactor draws. -/
open Go.RowKit

/-- a pattern with any level put in at f -/
def insA (p : List Int) (f : Nat) : List Int := p.take f ++ (-1 :: p.drop f)
theorem insA_len {p : List Int} {f : Nat} (h : f ≤ p.length) : (insA p f).length = p.length + 1 := by unfold insA; simp; omega
theorem insA_lt {p : List Int} {f k : Nat} (h : f ≤ p.length) (hk : k < f) : (insA p f)[k]? = p[k]? := by
  unfold insA
  rw [List.getElem?_append_left (by simp; omega), List.getElem?_take_of_lt hk]
theorem insA_eq {p : List Int} {f : Nat} (h : f ≤ p.length) : (insA p f)[f]? = some (-1) := by
  unfold insA
  rw [List.getElem?_append_right (by simp; omega)]
  have e : f - (p.take f).length = 0 := by simp; omega
  rw [e]; rfl
theorem insA_gt {p : List Int} {f k : Nat} (h : f ≤ p.length) (hk : f ≤ k) : (insA p f)[k + 1]? = p[k]? := by
  unfold insA
  rw [List.getElem?_append_right (by simp; omega)]
  have e : k + 1 - (p.take f).length = (k - f) + 1 := by simp; omega
  rw [e, List.getElem?_cons_succ, List.getElem?_drop]
  congr 1; omega
theorem insA_str {p : List Int} {f : Nat} : strN (insA p f) = strN p := by
  unfold insA strN
  rw [List.countP_append, List.countP_cons]
  have h : strN p = strN (p.take f ++ p.drop f) := by rw [List.take_append_drop]
  unfold strN at h
  rw [h, List.countP_append]
  simp
theorem er_at {α : Type} {l : List α} {f k : Nat} : (l.eraseIdx f)[k]? = if k < f then l[k]? else l[k + 1]? := List.getElem?_eraseIdx
theorem drop_law {m : List Int} {s : List (List Int)} {f : Int} (h : drB m s f = true) : ∃ fn : Nat, f = fn ∧ fn < m.length ∧ 2 ≤ m.length ∧ m.length ≤ 5 ∧ okM (m.eraseIdx fn) = true ∧ okS (m.eraseIdx fn) (drL m s f) = true ∧ (drL m s f).length = s.length ∧
    ∀ t : Int, t ≤ (m.length : Int) - 1 → icB m s t = true → icB (m.eraseIdx fn) (drL m s f) t = true := by
  have h0 := (dr_yes h).1
  unfold drB at h
  simp only [Bool.and_eq_true, decide_eq_true_eq] at h
  obtain ⟨⟨⟨hM, hS⟩, h2⟩, hf⟩ := h
  rw [inR_true] at hf
  obtain ⟨fn, rfl⟩ := Int.eq_ofNat_of_zero_le hf.1
  have ef : (fn : Int).toNat = fn := by simp
  rw [ef] at h0
  have hfl : fn < m.length := by omega
  have hm5 := okM_len hM
  have hel : (m.eraseIdx fn).length = m.length - 1 := by rw [List.length_eraseIdx, if_pos hfl]
  have hM2 : okM (m.eraseIdx fn) = true := by
    refine okM_mk (by omega) (by omega) ?_
    rw [List.all_eq_true]
    intro z hz
    rw [lvl_iff]
    obtain ⟨k, hk⟩ := List.getElem?_of_mem (List.mem_of_mem_eraseIdx hz)
    exact okM_at hM hk
  have hat : ∀ (r : List Int), r ∈ s → okT (m.eraseIdx fn) (r.eraseIdx fn) = true := by
    intro r hr
    have h1 := okS_all hS hr
    have h3 := okW_len h1
    refine okW_mk (by rw [List.length_eraseIdx, List.length_eraseIdx, h3]) fun k a b ha hb => ?_
    rw [er_at] at ha hb
    split at ha
    · rename_i hk; rw [if_pos hk] at hb; exact okW_at h1 ha hb
    · rename_i hk; rw [if_neg hk] at hb; exact okW_at h1 ha hb
  have hS2 : okS (m.eraseIdx fn) (drL m s fn) = true := by
    rw [h0]
    unfold okS
    rw [Bool.and_eq_true, List.all_eq_true, decide_eq_true_eq]
    refine ⟨fun r hr => ?_, by rw [List.length_map]; exact okS_len hS⟩
    obtain ⟨r', hr', rfl⟩ := List.mem_map.1 hr
    exact hat r' hr'
  refine ⟨fn, rfl, hfl, h2, hm5.2, hM2, hS2, by rw [h0, List.length_map], fun t hle ht => ?_⟩
  have hC : okC m s t = true := by
    cases hc : okC m s t
    · rw [ic_no hc] at ht; cases ht
    · rfl
  have hC2 : okC (m.eraseIdx fn) (drL m s fn) t = true := by
    have h1 := okC_parts hC
    unfold okC
    rw [hM2, hS2, inR_true.2 (by rw [hel]; omega)]; rfl
  rw [ic_yes hC, beq_iff_eq] at ht
  rw [ic_yes hC2, beq_iff_eq]
  have hnil : misL m s t = [] := List.eq_nil_of_length_eq_zero (by omega)
  suffices hs : misL (m.eraseIdx fn) (drL m s fn) t = [] by rw [hs]; rfl
  unfold misL misP at hnil ⊢
  rw [List.filter_eq_nil_iff] at hnil ⊢
  intro p hp hn
  have hp2 := (mem_patS hM2).1 hp
  have hpl := okW_len hp2.1
  rw [hel] at hpl
  have hfp : fn ≤ p.length := by omega
  have hpm : okP m (insA p fn) = true := by
    refine okW_mk (by rw [insA_len hfp]; omega) fun k a b ha hb => ?_
    by_cases hk : k < fn
    · rw [insA_lt hfp hk] at ha
      exact okW_at hp2.1 ha (by rw [er_at, if_pos hk]; exact hb)
    · by_cases hk2 : k = fn
      · subst hk2
        rw [insA_eq hfp] at ha
        cases ha
        have := okM_at hM hb
        omega
      · obtain ⟨j, rfl⟩ : ∃ j, k = j + 1 := ⟨k - 1, by omega⟩
        rw [insA_gt hfp (by omega)] at ha
        exact okW_at hp2.1 ha (by rw [er_at, if_neg (by omega)]; exact hb)
  have hh := hnil (insA p fn) ((mem_patS hM).2 ⟨hpm, by rw [insA_str]; exact hp2.2⟩)
  have hh2 : hasP s (insA p fn) = true := by simpa using hh
  unfold hasP at hh2
  rw [List.any_eq_true] at hh2
  obtain ⟨r, hr, hmr⟩ := hh2
  have hn2 : hasP (drL m s fn) p = false := by simpa using hn
  unfold hasP at hn2
  rw [List.any_eq_false] at hn2
  refine hn2 (r.eraseIdx fn) (by rw [h0]; exact List.mem_map_of_mem hr) ?_
  refine mB_mk fun k a b ha hb => ?_
  rw [er_at] at hb
  split at hb
  · rename_i hk
    exact mB_at hmr (by rw [insA_lt hfp hk]; exact ha) hb
  · rename_i hk
    exact mB_at hmr (by rw [insA_gt hfp (by omega)]; exact ha) hb

set_option maxRecDepth 100000 in
set_option maxHeartbeats 2000000 in
theorem l_drop {m : List Int} {a : Option Addr} {c lo hi fn : Nat} {w : World} (hm : RI w lo hi a m) (hB : hi ≤ w.heap.size) (hl : m.length ≤ 100000) (hc : m.length ≤ c) (hf : fn < m.length) :
    Calls Try.prog 65 #[.slice a m.length c, .int .i64 (fn : Int)] w (NewI w (m.eraseIdx fn)) := by
  obtain ⟨b1, o1, x1, ha1, _, _, _⟩ := hm.at hf
  subst ha1
  have hto := cutTo (b := b1) (o := o1) (n := m.length) (c := c) (k := fn) (z := (fn : Int)) rfl (by omega)
  obtain ⟨o', ho', hfrom⟩ := cutFrom (b := b1) (o := o1) (n := m.length) (c := c) (k := fn + 1) (z := IntKind.i64.wrap ((fn : Int) + 1)) (by rw [IntWalk.i64_in _ (by omega)]; omega) (by omega) hc
  have HE : Hid (m.take fn ++ m.drop (fn + 1) = m.eraseIdx fn) := (List.eraseIdx_eq_take_drop_succ ..).symm
  have HTL : Hid (fn = (m.take fn).length) := by show _ = _; simp; omega
  have HDL : Hid (m.length - (fn + 1) = (m.drop (fn + 1)).length) := by show _ = _; simp
  have hl0 : ([] : List Int).length ≤ 1099511627776 := by simp
  have hl1 : (m.take fn).length ≤ 1099511627776 := by simp; omega
  have hl2 : (m.drop (fn + 1)).length ≤ 1099511627776 := by simp; omega
  have hbA := (((Below.refl w.heap.size w).alloc (Nat.le_refl _) (.cells #[] 3)).drew)
  have hst : OwnL (w.alloc (.cells #[] 3)).drew w.heap.size (.slice (some ⟨w.heap.size, 0, none⟩) 0 0) [] := (OwnL.made w w.heap.size (Nat.le_refl _)).below ((Below.refl _ _).drew)
  have hwA : w.heap.size ≤ (w.alloc (.cells #[] 3)).drew.heap.size := by simp
  have hrA := (hm.below hbA hB).takeI fn
  have HR1 := Lib.hid hm
  have HO' := Lib.hid ho'
  obtain ⟨l, hl'⟩ : ∃ l, m.eraseIdx fn = l := ⟨_, rfl⟩
  rw [hl'] at HE
  rw [hl']
  clear hm ho' hl'
  go_enter Try.func65, Try.ntmps65
  go_wp2_with fail
  go_region_law ((first
    | (refine step_appS (by rfl) _ _ (by rfl) w.heap.size _ [] (by rfl) hst (m.take fn) lo hi _ _ ⟨b1, o1, none⟩ HTL.out (by rfl) hrA hl0 hl1 hwA ?_; intro v5 w5 hown5 hb5; rw [List.nil_append] at hown5; have hb05 := hbA.trans hb5; have hz5 := hb05.size; have hr5b := (HR1.out.below hb05 hB).dropI HO'.out; clear hst hrA)
    | (refine step_appS (by rfl) _ _ (by rfl) w.heap.size _ (m.take fn) (by rfl) hown5 (m.drop (fn + 1)) lo hi _ _ ⟨b1, o', none⟩ HDL.out (by rfl) hr5b hl1 hl2 hz5 ?_; intro v6 w6 hown6 hb6; rw [HE.out] at hown6; have hb06 := hb05.trans hb6; obtain ⟨a6, c6, rfl, ho6⟩ := hown6.slice; clear hown5 hr5b)))
  clear hb5 hb6 hb05 hbA hown6
  go_wp2
  go_ret
  exact ⟨_, _, rfl, ho6, hb06⟩

/-- a list, a suite and a number that a law has drawn -/
def DrP (w : World) (e : Ending) (w' : World) : Prop := ∃ (a1 : Option Addr) (c1 : Nat) (m : List Int) (a2 : Option Addr) (c2 : Nat) (s : List (List Int)) (f : Int), e = .returned (.tuple #[.slice a1 m.length c1, .slice a2 s.length c2, .int .i64 f]) ∧ (Got w w' 10 a1 c1 m ∧ GotS w w' 12 a2 c2 s ∧ (-1 ≤ f ∧ f ≤ 4)) ∧ Below w.heap.size w w'

set_option maxRecDepth 100000 in
set_option maxHeartbeats 2000000 in
theorem s_DrawDropFactor {n : Nat} {a : Option Addr} {c : Nat} {w : World} (hm : RB w w.heap.size a n) (hc : n ≤ c) (hl : n ≤ 1048576) :
    Calls Try.prog 62 #[.slice a n c] w (DrP w) := by
  go_enter Try.func62, Try.ntmps62
  go_wp2_with fail
  refine (s_newReader hm hc hl).mono ?_
  rintro e w1 ⟨rfl, hr1, hb1⟩
  have hlt := hr1.lt
  go_wp2_with fail
  refine (s_goodModel hr1 (by omega)).mono ?_
  rintro e w2 ⟨a2, c2, m2, rfl, ho2, hL2, hr2, hU2⟩
  go_wp2_with fail
  refine (s_bentModel hr2 (by omega) ho2 rfl hL2 (by omega) hlt hU2.size).mono ?_
  rintro e w3 ⟨a3, c3, m3, rfl, ho3, hL3, hr3, hU3⟩
  have hU := hU2.trans hU3
  have hcap := ho3.cap.2
  have hs3 := hU.size
  clear ho2 hL2 hr2 hU2 hU3 hr1
  go_wp2_with fail
  refine (s_someSuite hr3 ho3 rfl hlt hs3 hL3 (by omega) (by omega)).mono ?_
  rintro e w4 ⟨a4, c4, s, rfl, ho4, hS4, hr4, hm4, hU4⟩
  have hs4 := hU4.size
  obtain ⟨a5, c5, e5, hR⟩ := ho4.riic
  cases e5
  have hUU := hU.trans hU4
  clear ho3 hr3 hU hU4 ho4
  have hlt4 : w.heap.size < w4.heap.size := by omega
  have hb4 := (Below.refl w4.heap.size w4).alloc (Nat.le_refl _) (.cells #[.int .i64 0, .int .i64 1, .int .i64 2, .int .i64 4, .int .i64 (-1)] 3)
  have hr4b := hr4.below hb4 hlt4
  go_wp2_with fail
  refine (s_one hr4b (by omega) (litW w4 _ [0, 1, 2, 4, -1] rfl) (by simp) (by simp) (.inr hlt4) (by simp)).mono ?_
  rintro e w5 ⟨f, rfl, hf, hr5, hu5⟩
  have hf5 : -1 ≤ f ∧ f ≤ 4 := by simp at hf; omega
  have hU5 := ((UpB.refl w.heap.size w4.heap.size w4).below hb4 (Nat.le_refl _)).upd hu5
  have hs5 := hU5.size
  have hm5 := hm4.upB hU5 (Nat.le_refl _) (Nat.le_refl _) hlt
  have hR5 : RIIc w5 w3.heap.size w4.heap.size a4 c4 s := ⟨hR.rii.same fun k h1 h2 => hU5.block k h2 h2 (by omega), hR.cap⟩
  have hU6 := hUU.trans (hU5.less (show w1.heap.size ≤ w4.heap.size by omega))
  clear hm4 hR hUU hU5 hr4 hf hb4 hu5 hr4b
  go_wp2
  go_ret3
  exact ⟨_, _, m3, _, _, s, f, rfl, ⟨⟨hm5.wide (by omega) (by omega), hL3, hcap⟩, ⟨hR5.wide (by omega) (by omega), hS4⟩, hf5⟩, hb1.trans (hU6.toBelow (by omega) (by omega))⟩

end Go.Proofs.Ytcdhahdobegagaa
