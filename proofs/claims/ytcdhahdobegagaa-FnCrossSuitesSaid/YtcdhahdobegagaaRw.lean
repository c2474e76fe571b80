/- Plain facts on suites that are crossed (for FnCrossSuites). -/
import Derived.Test.YtcdhahdobegagaaRu
import Derived.Test.YtcdhahdobegagaaYo
namespace Go.Proofs.Ytcdhahdobegagaa
open Go.RowKit

theorem okW_set {m p : List Int} {k : Nat} {y z : Int} (h : okP m p = true) (hm : m[k]? = some y) (h0 : 0 ≤ z) (hz : z < y) : okP m (p.set k z) = true := by
  have h1 := okW_len h
  refine okW_mk (by simpa using h1) fun j a b ha hb => ?_
  by_cases hj : j = k
  · subst hj
    have hl := lt_of_at hb
    rw [List.getElem?_set_self (by omega)] at ha
    cases ha
    rw [hm] at hb; cases hb
    omega
  · rw [List.getElem?_set_ne (by omega)] at ha
    exact okW_at h ha hb
theorem strN_set {p : List Int} {k : Nat} {z : Int} (hk : p[k]? = some (-1)) (hz : z ≠ -1) : strN (p.set k z) = strN p + 1 := by
  unfold strN
  induction p generalizing k with
  | nil => simp at hk
  | cons a p ih => cases k with
    | zero =>
      simp at hk
      subst hk
      have : (z != -1) = true := by simpa using hz
      simp [this]
    | succ k =>
      simp at hk
      simp only [List.set_cons_succ, List.countP_cons, ih hk]
      omega
/-- a pattern of fewer levels is in one of more -/
theorem ext_str {m : List Int} (hM : okM m = true) : ∀ (d : Nat) (p : List Int), okP m p = true → strN p + d ≤ m.length → ∃ p', okP m p' = true ∧ strN p' = strN p + d ∧ ∀ r : List Int, mB p' r = true → mB p r = true
  | 0, p, h, _ => ⟨p, h, rfl, fun _ h => h⟩
  | d + 1, p, h, hd => by
    have hl := okW_len h
    have hne : strN p ≠ p.length := by omega
    rw [Ne, strN_full] at hne
    have : ∃ x ∈ p, x = -1 := by
      refine Classical.byContradiction fun hc => hne fun x hx he => hc ⟨x, hx, he⟩
    obtain ⟨x, hx, rfl⟩ := this
    obtain ⟨k, hk⟩ := List.getElem?_of_mem hx
    obtain ⟨y, hy⟩ := at_of_lt (show k < m.length by have := lt_of_at hk; omega)
    have hy3 := okM_at hM hy
    have h1 := okW_set (z := 0) h hy (by omega) (by omega)
    have h2 := strN_set (z := 0) hk (by omega)
    obtain ⟨p', g1, g2, g3⟩ := ext_str hM d (p.set k 0) h1 (by omega)
    refine ⟨p', g1, by omega, fun r hr => ?_⟩
    have h3 := g3 r hr
    refine mB_mk fun j a b ha hb => ?_
    by_cases hj : j = k
    · subst hj; rw [hk] at ha; cases ha; exact .inl rfl
    · exact mB_at h3 (by rw [List.getElem?_set_ne (by omega)]; exact ha) hb
/-- a suite that covers has a test for each pattern of at most as many levels -/
theorem cov_has {m p : List Int} {s : List (List Int)} {t : Int} (h : icB m s t = true) (hp : okP m p = true) (hs : (strN p : Int) ≤ t) : hasP s p = true := by
  have hC : okC m s t = true := by
    cases hc : okC m s t
    · rw [ic_no hc] at h; cases h
    · rfl
  have hpt := okC_parts hC
  rw [ic_yes hC, beq_iff_eq] at h
  have hnil : misL m s t = [] := List.eq_nil_of_length_eq_zero (by omega)
  obtain ⟨p', g1, g2, g3⟩ := ext_str hpt.1 (t.toNat - strN p) p hp (by omega)
  unfold misL misP at hnil
  rw [List.filter_eq_nil_iff] at hnil
  have hh := hnil p' ((mem_patS hpt.1).2 ⟨g1, by omega⟩)
  have hh2 : hasP s p' = true := by simpa using hh
  unfold hasP at hh2 ⊢
  rw [List.any_eq_true] at hh2 ⊢
  obtain ⟨r, hr, hm⟩ := hh2
  exact ⟨r, hr, g3 r hm⟩
theorem okM_app {m n : List Int} (hM : okM m = true) (hN : okM n = true) (h5 : m.length + n.length ≤ 5) : okM (m ++ n) = true := by
  have h1 := okM_len hM
  refine okM_mk (by simp; omega) (by simp; omega) ?_
  rw [List.all_append, okM_all hM, okM_all hN]; rfl
theorem okW_app {lo : Int} {m n p q : List Int} (hp : okW lo m p = true) (hq : okW lo n q = true) : okW lo (m ++ n) (p ++ q) = true := by
  have h1 := okW_len hp
  have h2 := okW_len hq
  refine okW_mk (by simp; omega) fun k a b ha hb => ?_
  by_cases hk : k < p.length
  · rw [List.getElem?_append_left hk] at ha
    rw [List.getElem?_append_left (by omega)] at hb
    exact okW_at hp ha hb
  · rw [List.getElem?_append_right (by omega)] at ha hb
    rw [← h1] at hb
    exact okW_at hq ha hb
theorem cross_law {m n : List Int} {a b : List (List Int)} (h : crB m a n b = true) : (okM (m ++ n) = true ∧ okS (m ++ n) (crL m a n b) = true ∧ (crL m a n b).length = a.length * b.length) ∧
    ∀ t : Int, t ≤ m.length → t ≤ n.length → icB m a t = true → icB n b t = true → icB (m ++ n) (crL m a n b) t = true := by
  have h0 := (cr_yes h).1
  unfold crB at h
  simp only [Bool.and_eq_true, decide_eq_true_eq] at h
  obtain ⟨⟨⟨⟨hM, hA⟩, hN, hB⟩, h5⟩, h20⟩ := h
  have hMN := okM_app hM hN h5
  have hS : okS (m ++ n) (crL m a n b) = true := by
    rw [h0]
    unfold okS
    rw [Bool.and_eq_true, List.all_eq_true, decide_eq_true_eq]
    refine ⟨fun r hr => ?_, by rw [crX_len]; exact h20⟩
    obtain ⟨x, hx, hr⟩ := List.mem_flatMap.1 hr
    obtain ⟨y, hy, rfl⟩ := List.mem_map.1 hr
    exact okW_app (okS_all hA hx) (okS_all hB hy)
  refine ⟨⟨hMN, hS, by rw [h0, crX_len]⟩, fun t h1 h2 hia hib => ?_⟩
  have hC : okC m a t = true := by
    cases hc : okC m a t
    · rw [ic_no hc] at hia; cases hia
    · rfl
  have ht0 := (okC_parts hC).2.1
  have hC2 : okC (m ++ n) (crL m a n b) t = true := by
    unfold okC
    rw [hMN, hS, inR_true.2 (by simp; omega)]; rfl
  rw [ic_yes hC2, beq_iff_eq]
  suffices hs : misL (m ++ n) (crL m a n b) t = [] by rw [hs]; rfl
  unfold misL misP
  rw [List.filter_eq_nil_iff]
  intro p hp hn
  have hp2 := (mem_patS hMN).1 hp
  have hpl := okW_len hp2.1
  rw [List.length_append] at hpl
  have hstr : strN p = strN (p.take m.length) + strN (p.drop m.length) := by
    have : strN (p.take m.length ++ p.drop m.length) = strN (p.take m.length) + strN (p.drop m.length) := by unfold strN; rw [List.countP_append]
    rw [List.take_append_drop] at this
    exact this
  have hp1 : okP m (p.take m.length) = true := by
    refine okW_mk (by simp; omega) fun k x y hx hy => ?_
    have hk := lt_of_at hy
    rw [List.getElem?_take_of_lt hk] at hx
    exact okW_at hp2.1 hx (by rw [List.getElem?_append_left hk]; exact hy)
  have hp3 : okP n (p.drop m.length) = true := by
    refine okW_mk (by simp; omega) fun k x y hx hy => ?_
    rw [List.getElem?_drop] at hx
    exact okW_at hp2.1 hx (by rw [List.getElem?_append_right (by omega)]; rw [show m.length + k - m.length = k from by omega]; exact hy)
  have g1 := cov_has hia hp1 (by omega)
  have g2 := cov_has hib hp3 (by omega)
  have hn2 : hasP (crL m a n b) p = false := by simpa using hn
  unfold hasP at g1 g2 hn2
  rw [List.any_eq_true] at g1 g2
  rw [List.any_eq_false] at hn2
  obtain ⟨r, hr, hmr⟩ := g1
  obtain ⟨u, hu, hmu⟩ := g2
  have hrl := okW_len (okS_all hA hr)
  refine hn2 (r ++ u) (by rw [h0]; exact List.mem_flatMap.2 ⟨r, hr, List.mem_map.2 ⟨u, hu, rfl⟩⟩) ?_
  refine mB_mk fun k x y hx hy => ?_
  by_cases hk : k < m.length
  · rw [List.getElem?_append_left (by omega)] at hy
    exact mB_at hmr (by rw [List.getElem?_take_of_lt hk]; exact hx) hy
  · rw [List.getElem?_append_right (by omega)] at hy
    exact mB_at hmu (k := k - r.length) (by rw [List.getElem?_drop, show m.length + (k - r.length) = k from by omega]; exact hx) hy

/- Walks: what FnCrossSuites draws. -/
open Go.RowKit

set_option maxRecDepth 100000 in
set_option maxHeartbeats 2000000 in
theorem s_smallModel {b K : Nat} {w : World} (hr : Rdr w b K) (hK : K ≤ 1000000) :
    Calls Try.prog 85 #[.pointer (some ⟨b, 0, none⟩)] w (Dl w b (K + 6) w.heap.size (LP 5)) := by
  have hlt := hr.lt
  obtain ⟨W1, hW1⟩ : ∃ W, w.alloc (.cells #[] 3) = W := ⟨_, rfl⟩
  have hb1 : Below w.heap.size w W1 := by rw [← hW1]; exact (Below.refl w.heap.size w).alloc (Nat.le_refl _) _
  have hs1 : w.heap.size + 1 ≤ W1.heap.size := by rw [← hW1]; simp
  have ho1 : OwnL W1 w.heap.size (.slice (some ⟨w.heap.size, 0, none⟩) 0 0) [] := by rw [← hW1]; exact OwnL.made w w.heap.size (Nat.le_refl _)
  have hb2 := (Below.refl W1.heap.size W1).alloc (Nat.le_refl _) (.cells #[.int .i64 2, .int .i64 3, .int .i64 2, .int .i64 1] 3)
  go_enter Try.func85, Try.ntmps85
  go_wp2_with fail
  refine (s_one ((hr.below hb1 hlt).below hb2 (by omega)) (by omega) (litW W1 _ [2, 3, 2, 1] rfl) (by simp) (by simp) (.inr (by omega)) (by simp)).mono ?_
  rintro e w2 ⟨n, rfl, hn, hr2, hu2⟩
  have hn5 : 1 ≤ n ∧ n ≤ 5 := by simp at hn; omega
  have ho2 := (ho1.same fun g _ h2 => hb2.block g h2).upd hu2 hlt
  have hU2 : UpB b w.heap.size w w2 := (((UpB.refl b w.heap.size w).below hb1 (Nat.le_refl _)).below hb2 (by omega)).upd hu2
  have hs2 := hU2.size
  clear hr hb1 hb2 ho1 hu2 hn hs1
  go_wp2
  go_loopw [3] (fun v wr => ∃ (a : Option Addr) (c : Nat) (l : List Int), v = .slice a l.length c ∧ OwnL wr w.heap.size (.slice a l.length c) l ∧ LP n.toNat l ∧ Rdr wr b (K + 1 + l.length) ∧ UpB b w.heap.size w wr) (fun v _ => n.toNat - lenV v)
  case atStart => exact ⟨_, _, [], rfl, ho2, LP.nil _, hr2, hU2⟩
  case round =>
    clear ho2 hr2 hU2
    obtain ⟨a, c, l, rfl, ho, hL, hr, hU⟩ := hrel
    have hl1 := hL.1
    have hlw := hr.lt
    have hszr := hU.size
    have HL := Lib.hid hL
    clear hL hW1
    by_cases hlt2 : (l.length : Int) < n
    · have hb3 := (Below.refl wr.heap.size wr).alloc (Nat.le_refl _) (.cells #[.int .i64 2, .int .i64 2, .int .i64 3, .int .i64 1] 3)
      go_wp2_with fail
      refine (s_one (hr.below hb3 hlw) (by omega) (litW wr _ [2, 2, 3, 1] rfl) (by simp) (by simp) (.inr hlw) (by simp)).mono ?_
      rintro e w3 ⟨x, rfl, hx, hr3, hu3⟩
      have hx3 : -4 ≤ x ∧ x ≤ 4 := by simp at hx; omega
      have ho3 := (ho.same fun g _ h2 => hb3.block g h2).upd hu3 hlt
      have hU3 := (hU.below hb3 (by omega)).upd hu3
      have hs3 := hU3.size
      clear ho hr hU hu3 hx hb3
      go_wp2_with (first
        | (at_builtin; refine wpList_app1 rfl _ _ rfl w.heap.size _ l rfl ho3 x rfl (by omega) hs3 ?_; intro v4 w4 ho4 hb4)
        | go_in)
      obtain ⟨a4, c4, rfl, _⟩ := ho4.slice
      have hr4 := hr3.below hb4 hlt
      have hU4 := hU3.below hb4 (Nat.le_refl _)
      have HL4 : Hid (LP n.toNat (l ++ [x])) := ⟨by simp; omega, (HL.out.snoc hx3).2⟩
      clear ho3 hr3 hU3 hb4
      go_roundw
      case rel => exact ⟨a4, c4, l ++ [x], rfl, ho4, HL4.out, hr4.mono (by simp; omega), hU4⟩
      case measure => simp [lenV]; omega
    · go_wp2
      go_ret
      exact ⟨a, c, l, rfl, ho, HL.out.mono (by omega), hr.mono (by omega), hU⟩


theorem minFour (x : Int) (wx : World) : (Builtin.min_ #[3, 3] 3 #[.int .i64 x, .int .i64 4]).run Try.prog wx = .ok (.int .i64 (min x 4)) wx := by
  rw [run_min_int2]
  congr 2
  split <;> omega
theorem sliceAny {a : Option Addr} {n c k : Nat} (hk : k ≤ c) (hn : ∀ ad, a = some ad → ∃ b o, ad = ⟨b, o, none⟩) (wx : World) : (Instr.slice 24 (.slice a n c) none (some (.int .i64 (k : Int))) none).run Try.prog wx = .ok (.slice a k c) wx := by
  cases a with
  | some ad => obtain ⟨b, o, rfl⟩ := hn ad rfl; exact sliceToII rfl hk wx
  | none =>
    rw [run_slice_h (P := Try.prog) (w := wx) 24 none n c undIIe .i64 (k : Int) (by omega) (by omega)]
    have hs := sizeI wx
    rw [elemII]
    simp [hs, Result.andThen, sliced]
theorem RII.takeO {w : World} {lo hi : Nat} {a : Option Addr} {s : List (List Int)} (h : RII w lo hi a s) (k : Nat) : RII w lo hi a (s.take k) := by
  intro j hj
  simp at hj
  obtain ⟨b, o, a', c', r, h1, h2, h3, h4, h5⟩ := h j (by omega)
  exact ⟨b, o, a', c', r, h1, h2, h3, by rw [List.getElem?_take_of_lt (by omega)]; exact h4, h5⟩
/-- a suite that a law has drawn, cut or not -/
theorem OwnX.addr {w : World} {B n c : Nat} {a : Option Addr} {mm : List (List Int)} (h : OwnX w B (.slice a n c) mm) : ∀ ad, a = some ad → ∃ b o, ad = ⟨b, o, none⟩ := by
  intro ad e
  obtain ⟨xs, h1, _⟩ := h
  rcases h1.2 with ⟨h2, _⟩ | ⟨g, cap, cur, h2, _⟩
  · rw [e] at h2; cases h2
  · rw [e] at h2; cases h2; exact ⟨g, 0, rfl⟩

/-- two lists and two suites that a law has drawn -/
def DrC (w : World) (e : Ending) (w' : World) : Prop := ∃ (a1 : Option Addr) (c1 : Nat) (m : List Int) (a2 : Option Addr) (c2 : Nat) (s : List (List Int)) (a3 : Option Addr) (c3 : Nat) (n : List Int) (a4 : Option Addr) (c4 : Nat) (t : List (List Int)), e = .returned (.tuple #[.slice a1 m.length c1, .slice a2 s.length c2, .slice a3 n.length c3, .slice a4 t.length c4]) ∧ (Got w w' 10 a1 c1 m ∧ GotS w w' 10 a2 c2 s ∧ Got w w' 10 a3 c3 n ∧ GotS w w' 10 a4 c4 t) ∧ Below w.heap.size w w'

set_option maxRecDepth 100000 in
set_option maxHeartbeats 4000000 in
theorem s_DrawCrossSuites {n0 : Nat} {a : Option Addr} {c : Nat} {w : World} (hm : RB w w.heap.size a n0) (hc : n0 ≤ c) (hl : n0 ≤ 1048576) :
    Calls Try.prog 54 #[.slice a n0 c] w (DrC w) := by
  go_enter Try.func54, Try.ntmps54
  go_wp2_with fail
  refine (s_newReader hm hc hl).mono ?_
  rintro e w1 ⟨rfl, hr1, hb1⟩
  have hlt := hr1.lt
  go_wp2_with fail
  refine (s_smallModel hr1 (by omega)).mono ?_
  rintro e w2 ⟨a2, c2, m2, rfl, ho2, hL2, hr2, hU2⟩
  go_wp2_with fail
  refine (s_bentModel hr2 (by omega) ho2 rfl hL2 (by omega) hlt hU2.size).mono ?_
  rintro e w3 ⟨a3, c3, m, rfl, ho3, hL3, hr3, hU3⟩
  have hU := hU2.trans hU3
  have hcap := ho3.cap.2
  have hs3 := hU.size
  obtain ⟨a3', c3', e3, hoi3⟩ := ho3.slice
  cases e3
  have hm3 := hoi3.ri
  have hlt3 : w.heap.size < w3.heap.size := by omega
  clear ho2 hL2 hr2 hU2 hU3 hr1 hoi3 ho3
  go_wp2_with fail
  refine (s_smallModel hr3 (by omega)).mono ?_
  rintro e w4 ⟨a4, c4, n2, rfl, ho4, hL4, hr4, hU4⟩
  go_wp2_with fail
  refine (s_bentModel hr4 (by omega) ho4 rfl hL4 (by omega) hlt3 hU4.size).mono ?_
  rintro e w5 ⟨a5, c5, n, rfl, ho5, hL5, hr5, hU5⟩
  have hU45 := hU4.trans hU5
  have ncap := ho5.cap.2
  have hs5 := hU45.size
  obtain ⟨a5', c5', e5, hoi5⟩ := ho5.slice
  cases e5
  have hn5 := hoi5.ri
  have hm5 := hm3.upB hU45 (Nat.le_refl _) (Nat.le_refl _) hlt
  have hUa := hU.trans (hU45.less hs3)
  clear ho4 hL4 hr4 hU4 hU5 hr3 hoi5 ho5 hm3 hU hU45
  go_wp2_with fail
  refine (s_aSuite hr5 hm5 hs5 hlt hL3 (by omega) (by omega)).mono ?_
  rintro e w6 ⟨a6, c6, s, rfl, hX6, hS6, hr6, hU6⟩
  have hs6 := hU6.size
  have had6 := hX6.addr
  obtain ⟨a6', c6', e6, hR6⟩ := hX6.riic
  cases e6
  have hm6 := hm5.upB hU6 hs5 hs5 hlt
  have hn6 := hn5.upB hU6 (Nat.le_refl _) (Nat.le_refl _) hlt3
  have hUb := hUa.trans (hU6.less (show w1.heap.size ≤ w5.heap.size by omega))
  clear hm5 hn5 hr5 hX6 hU6 hUa
  go_wp2_with fail
  refine (s_aSuite hr6 hn6 hs6 hlt3 hL5 (by omega) (by omega)).mono ?_
  rintro e w7 ⟨a7, c7, t, rfl, hX7, hS7, hr7, hU7⟩
  have hs7 := hU7.size
  have had7 := hX7.addr
  obtain ⟨a7', c7', e7, hR7⟩ := hX7.riic
  cases e7
  have hm7 := hm6.upB hU7 (by omega) (by omega) hlt
  have hn7 := hn6.upB hU7 hs6 hs6 hlt3
  have hR67 : RIIc w7 w5.heap.size w6.heap.size a6 c6 s := ⟨hR6.rii.same fun k h1 h2 => hU7.block k (by omega) (by omega) (by omega), hR6.cap⟩
  have hUc := hUb.trans (hU7.less (show w1.heap.size ≤ w6.heap.size by omega))
  clear hm6 hn6 hr6 hX7 hU7 hUb hR6
  go_wp2_with fail
  refine (s_pick hr7 (by omega) (by omega) (by omega)).mono ?_
  rintro e w8 ⟨v, rfl, hv, hr8, hu8⟩
  have hs8 := hu8.size
  have hm8 := hm7.upd hu8 (by omega) (.inr (by omega))
  have hn8 := hn7.upd hu8 (by omega) (.inr (by omega))
  have hR8 := hR67.upd hu8 (by omega) (.inr (by omega))
  have hT8 := hR7.upd hu8 (by omega) (.inr (by omega))
  have hUd := hUc.upd hu8
  have hBB := hb1.trans (hUd.toBelow (by omega) (by omega))
  clear hm7 hn7 hR67 hR7 hu8 hUc hUd hr7 hr8 hv hb1
  by_cases hv0 : (0 : Int) < v
  · obtain ⟨k1, hk1⟩ : ∃ k, min s.length 4 = k := ⟨_, rfl⟩
    obtain ⟨k2, hk2⟩ : ∃ k, min t.length 4 = k := ⟨_, rfl⟩
    have hz1 : min (s.length : Int) 4 = (k1 : Int) := by omega
    have hz2 : min (t.length : Int) 4 = (k2 : Int) := by omega
    have hc6 := hR8.cap
    have hc7 := hT8.cap
    have hmin1 : ∀ wx : World, (Builtin.min_ #[3, 3] 3 #[.int .i64 (s.length : Int), .int .i64 4]).run Try.prog wx = .ok (.int .i64 (k1 : Int)) wx := fun wx => by rw [minFour, hz1]
    have hmin2 : ∀ wx : World, (Builtin.min_ #[3, 3] 3 #[.int .i64 (t.length : Int), .int .i64 4]).run Try.prog wx = .ok (.int .i64 (k2 : Int)) wx := fun wx => by rw [minFour, hz2]
    have hto1 := sliceAny (n := s.length) (c := c6) (k := k1) (by omega) had6
    have hto2 := sliceAny (n := t.length) (c := c7) (k := k2) (by omega) had7
    have H1 : Hid (k1 = (s.take k1).length ∧ (s.take k1).length ≤ c6) := by have e : (s.take k1).length = k1 := by simp; omega
                                                                            exact ⟨e.symm, by omega⟩
    have H2 : Hid (k2 = (t.take k2).length ∧ (t.take k2).length ≤ c7) := by have e : (t.take k2).length = k2 := by simp; omega
                                                                            exact ⟨e.symm, by omega⟩
    clear hk1 hk2 hz1 hz2 had6 had7
    go_wp2
    (try simp only [Exit.inBlock, Exit.then])
    refine bodyPost_ret (results_tmp4 rfl _ _ _) rfl ?_
    refine ⟨_, _, m, _, _, s.take k1, _, _, n, _, _, t.take k2, ?_, ⟨⟨hm8.wide (by omega) (by omega), hL3, hcap⟩, ⟨⟨(hR8.rii.takeO k1).wide (by omega) (by omega), H1.out.2⟩, by have := hS6.1; simp; omega, fun r hr => hS6.2 r (List.mem_of_mem_take hr)⟩, ⟨hn8.wide (by omega) (by omega), hL5, ncap⟩, ⟨⟨(hT8.rii.takeO k2).wide (by omega) (by omega), H2.out.2⟩, by have := hS7.1; simp; omega, fun r hr => hS7.2 r (List.mem_of_mem_take hr)⟩⟩, hBB⟩
    rw [← H1.out.1, ← H2.out.1]
    rfl
  · go_wp2
    (try simp only [Exit.inBlock, Exit.then])
    refine bodyPost_ret (results_tmp4 rfl _ _ _) rfl ?_
    exact ⟨_, _, m, _, _, s, _, _, n, _, _, t, rfl, ⟨⟨hm8.wide (by omega) (by omega), hL3, hcap⟩, ⟨hR8.wide (by omega) (by omega), by have := hS6.1; omega, hS6.2⟩, ⟨hn8.wide (by omega) (by omega), hL5, ncap⟩, ⟨hT8.wide (by omega) (by omega), by have := hS7.1; omega, hS7.2⟩⟩, hBB⟩

end Go.Proofs.Ytcdhahdobegagaa
