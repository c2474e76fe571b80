/- Walks: ResultsOf, by both sides. -/
import Derived.Test.YtbdbfbobcdepgaaVq
import Derived.Test.YtbdbfbobcdepgaaZb
import Derived.Test.YtbdbfbobcdepgaaZa
namespace Go.Proofs.Ytbdbfbobcdepgaa
open Go.RowKit

/-- which tests fail -/
def roL (m : List Int) (s b : List (List Int)) : List Bool := if okM m && okS m s && okBn m b then s.map (bnB b) else []
theorem ro_no {m : List Int} {s b : List (List Int)} (h : (okM m && okS m s && okBn m b) = false) : roL m s b = [] := by unfold roL; rw [h]; rfl
theorem ro_yes {m : List Int} {s b : List (List Int)} (h : okM m = true) (h1 : okS m s = true) (h2 : okBn m b = true) : roL m s b = s.map (bnB b) := by unfold roL; rw [h, h1, h2]; rfl
theorem roL_len {m : List Int} {s b : List (List Int)} : (roL m s b).length ≤ s.length := by
  unfold roL; split <;> simp
theorem fb_at {m x : List Int} {b : List (List Int)} (hok : okM m = true) (hob : okBn m b = true) (hx : x.length = m.length) : fbB b (at5 x) = bnB b x := by
  have hm5 := (okM_len hok).2
  unfold fbB bnB
  rw [Bool.eq_iff_iff, List.any_eq_true, List.any_eq_true]
  constructor
  · rintro ⟨p, h1, h2⟩
    exact ⟨p, h1, by rwa [meet5_mB (by rw [okW_len (okBn_all hob h1), hx]) (by rw [okW_len (okBn_all hob h1)]; exact hm5)] at h2⟩
  · rintro ⟨p, h1, h2⟩
    exact ⟨p, h1, by rwa [meet5_mB (by rw [okW_len (okBn_all hob h1), hx]) (by rw [okW_len (okBn_all hob h1)]; exact hm5)]⟩

/-- append of one bool at a step of a region that draws its order -/
theorem step_app1B {wr : World} {ops : Array Oper} {o : Oper} {a : Act} {K : Act → World → Prop} {Q : Exit → Act → World → Prop} {E : Prop} (hgd : o.guard = none) (s t : Operand)
    (ho : o.op = .call { callee := .builtin .append, args := #[s, t], argTypes := #[38, 38] }) (B : Nat) (v : Value) (l : List Bool) (hs : a.eval s = v) (hown : OwnBo wr B v l) (x : Bool)
    (nw : Nat) (hx : a.eval t = .slice (some ⟨nw, 0, none⟩) 1 1) (hnw : nw = wr.heap.size) (hl : l.length ≤ 1099511627776) (hB : B ≤ wr.heap.size)
    (h : ∀ v' w', OwnBo w' B v' (l ++ [x]) → Below B wr w' → K (a.put o.dst v') w') :
    if Region.wanted o (yielded ops a.tmps) = true then Oper.wp Try.prog o a (wr.alloc (.cells #[.bool x] 4)) K Q else E := by
  subst hnw
  obtain ⟨i0, hi, hz0, hz1, hz2⟩ := info_parts infoBool
  have hw : Region.wanted o (yielded ops a.tmps) = true := by simp [Region.wanted, hgd]
  rw [if_pos hw]
  refine wp_append_own _ s t 38 ho B 4 i0 (.bool false) 1 1 undB hi hz0 hz1 hz2 rfl (by decide) v l.length (bols l) hs (World.ownsRow.alloc hown _) ⟨wr.heap.size, 0, none⟩ 1 1 [.bool x] hx rfl ?_ ?_ ?_ ?_ ?_ ?_
  · exact cell_one_new _ _ _
  · intro u hu; simp at hu; subst hu; rfl
  · unfold maxLen; omega
  · omega
  · simp; omega
  · intro v' w' h1 h2 _
    refine h v' w' ?_ ?_
    · unfold OwnBo; rw [bols_snoc, List.length_append]; exact h1
    · refine (((Below.refl B wr).alloc hB _).grown h2 (by simp; omega) fun k hk => ?_)
      exact ((World.ownsRow.lt hown) k hk).1

set_option maxRecDepth 100000 in
set_option maxHeartbeats 2000000 in
theorem s_results {s b : List (List Int)} {a a' : Option Addr} {c c' lo hi lo' hi' n : Nat} {w : World} (hs : RII w lo hi a s) (hB : hi ≤ w.heap.size) (hb : RII w lo' hi' a' b) (hB' : hi' ≤ w.heap.size) (hl : s.length ≤ 1048576) (hl' : b.length ≤ 1048576) (hr : ∀ r ∈ s, r.length = n) (hr' : ∀ r ∈ b, r.length = n) (hn : n ≤ 1048576) :
    Calls Try.prog 165 #[.slice a s.length c, .slice a' b.length c'] w (NewBo w (s.map (bnB b))) := by
  have HR := Lib.hid hr; have HR' := Lib.hid hr'; clear hr hr'
  obtain ⟨N, hN⟩ : ∃ N, s.length = N := ⟨_, rfl⟩
  have HN := Lib.hid hN
  have hNl : N ≤ 1048576 := by omega
  have hst := OwnBo.made w w.heap.size (Nat.le_refl _)
  rw [hN]
  clear hN hl
  go_enter Try.func165, Try.ntmps165
  go_wp2
  go_loopw [5, 6] (fun v i wr => ∃ (k : Nat) (a : Option Addr) (cc : Nat), k ≤ N ∧ i = .int .i64 k ∧ v = .slice a k cc ∧ OwnBo wr w.heap.size v ((s.take k).map (bnB b)) ∧ Below w.heap.size w wr) (fun _ i _ => N - (intOf i).toNat)
  case atStart => exact ⟨0, _, _, Nat.zero_le _, rfl, rfl, hst, (Below.refl _ _).alloc (Nat.le_refl _) _⟩
  case round =>
    clear hst
    obtain ⟨k, av, cv, hk, rfl, rfl, hown, hBl⟩ := hrel
    have hsz := hBl.size
    by_cases hlt : k < N
    · obtain ⟨b1, o1, a3, c3, r, ha, _, _, hcell, hrr, hx⟩ := (hs.below hBl hB).at (show k < s.length by have := HN.out; omega)
      have hidx := idxII ha hlt c
      have hrl : r.length ≤ n ∧ n ≤ r.length := by have := HR.out r (List.mem_of_getElem? hx.out); omega
      have hbq := hb.below hBl hB'
      obtain ⟨X, hX⟩ : ∃ X, bnB b r = X := ⟨_, rfl⟩
      have HC := s_allowed (c := c3) (c' := c') hbq hrr (by omega) (fun q hq => by have := HR'.out q hq; omega) (by omega)
      rw [hX] at HC
      have HC := Lib.hid HC
      have HX := Lib.hid hX
      have hkl : ((s.take k).map (bnB b)).length ≤ 1099511627776 := by simp; omega
      clear ha hs hb hbq hrr hX
      go_wp2_with fail
      refine HC.out.mono ?_
      rintro e w2 ⟨rfl, d2⟩
      have d2 : Dr wr w2 := d2
      have b2 := Dr.below d2 wr.heap.size
      have hz2 := Dr.le d2
      have hown2 := hown.below b2
      have HNX : Hid ((s.take k).map (bnB b) ++ [X] = (s.take (k + 1)).map (bnB b)) := by show _ = _; rw [take_snoc hx.out, List.map_append, List.map_singleton, HX.out]
      obtain ⟨l, hl⟩ : ∃ l, (s.take k).map (bnB b) = l := ⟨_, rfl⟩
      rw [hl] at hown2 hkl HNX
      clear hown hl
      have hnn : (!(!X)) = X := by cases X <;> rfl
      go_wp2_with (first
        | (at_builtin; refine wpList_app1B rfl (.tmp 14) (.tmp 22) rfl w.heap.size _ l rfl hown2 X rfl hkl (by omega) ?_; intro v4 w4 hown4 hb4)
        | go_in)
      rw [HNX.out] at hown4
      have hBl4 := (hBl.trans (b2.mono (by omega))).trans hb4
      obtain ⟨a4, c4, rfl, _⟩ := hown4.slice
      have hlen : ((s.take (k + 1)).map (bnB b)).length = k + 1 := by have := HN.out; simp; omega
      rw [hlen] at hown4 ⊢
      go_wp2
      go_roundw
      case rel => exact ⟨k + 1, a4, c4, by omega, by go_num, rfl, hown4, hBl4⟩
      case measure => simp [intOf]; omega
    · have HTK : Hid (s.take k = s) := List.take_of_length_le (by have := HN.out; omega)
      rw [HTK.out] at hown
      have hkN : k = N := by omega
      subst hkN
      obtain ⟨a4, c4, e4, ho4⟩ := hown.slice
      have E4 := Lib.hid e4
      clear e4
      go_wp2
      go_ret
      have e4 := E4.out
      cases e4
      exact ⟨_, _, rfl, ho4, hBl⟩

/- Walks: bools that the laws compare; plain facts of what tests tell. -/
open Go.RowKit

def hasP' (mm : List (List Int)) (x : List Int) : Bool := decide (x ∈ mm)
theorem ro_at {m : List Int} {s u : List (List Int)} (hm : okM m = true) (hs : okS m s = true) (hu : okBn m u = true) : (roL m s u).length = s.length ∧ (∀ (k : Nat) (x : List Int), s[k]? = some x → (roL m s u)[k]? = some (bnB u x)) ∧ ∀ x ∈ s, hasP' (atL m u) x = !bnB u x := by
  rw [ro_yes hm hs hu]
  refine ⟨by simp, fun k x hx => by rw [List.getElem?_map, hx]; rfl, fun x hx => ?_⟩
  have hxT := okS_all hs hx
  rw [Bool.eq_iff_iff]
  unfold hasP'
  rw [decide_eq_true_eq, at_yes hm hu]
  unfold alL
  rw [List.mem_filter, ext_mem hm]
  exact ⟨fun h => h.2, fun h => ⟨hxT, h⟩⟩

end Go.Proofs.Ytbdbfbobcdepgaa
