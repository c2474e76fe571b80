/- Walks: AddFactor by the document's reference (widen). -/
import Derived.Test.YteoiclkipfdgpaaYh
import Derived.Test.YteoiclkipfdgpaaOc
import Derived.Test.YteoiclkipfdgpaaOx
import Derived.Test.YteoiclkipfdgpaaTc
import Derived.Test.YteoiclkipfdgpaaVb
namespace Go.Proofs.Yteoiclkipfdgpaa
open Go.RowKit

/-- append of a row to rows of others: other blocks stay -/
theorem wpList_appXW {wr : World} {ops : Array Oper} {rest : List Oper} {o : Oper} {a : Act} {Q : Exit → Act → World → Prop} (hgd : o.guard = none) (s t : Operand)
    (ho : o.op = .call { callee := .builtin .append, args := #[s, t], argTypes := #[23, 23] }) (B lo hi : Nat) (v : Value) (mm : List (List Int)) (hs : a.eval s = v) (hown : OwnX wr B v mm) (hB : B ≤ wr.heap.size)
    (r : List Int) (a' : Option Addr) (n c' : Nat) (hn : n = r.length) (hr : RI wr lo hi a' r) (hcap : r.length ≤ c') (hlo : B ≤ lo) (hhi : hi ≤ wr.heap.size) (hoff : ∀ g, v.ownBlock = some g → g < lo ∨ hi ≤ g) (nw : Nat) (hx : a.eval t = .slice (some ⟨nw, 0, none⟩) 1 1) (hnw : nw = wr.heap.size) (hl : mm.length ≤ 1099511627776)
    (h : ∀ v' w', OwnX w' B v' (mm ++ [r]) → Below B wr w' → (∀ b, b < wr.heap.size → v.ownBlock ≠ some b → w'.heap[b]? = wr.heap[b]?) → Hid (v'.ownBlock = v.ownBlock ∨ v'.ownBlock = some (wr.heap.size + 1)) → wpList Try.prog ops Q rest (a.put o.dst v') w') : wpList Try.prog ops Q (o :: rest) a (wr.alloc (.cells #[.slice a' n c'] 22)) := by
  subst hnw hn
  have hlt0 := hown.lt
  obtain ⟨xs, h1, h2⟩ := hown
  have hxl : xs.length = mm.length := by have := h1.1; omega
  obtain ⟨i0, hi0, hz0, hz1, hz2⟩ := info_parts infoI
  have hbA := (Below.refl wr.heap.size wr).alloc (Nat.le_refl _) (.cells #[.slice a' r.length c'] 22)
  refine wpList_append_own_at _ hgd s t 23 ho B 22 i0 (.slice none 0 0) 1 24 undII hi0 hz0 hz1 hz2 rfl (by decide) v mm.length xs hs (World.ownsRow.alloc h1 _) ⟨wr.heap.size, 0, none⟩ 1 1 [.slice a' r.length c'] hx rfl (cell_one_new _ _ _) ?_ ?_ ?_ ?_ ?_
  · intro u hu; simp at hu; subst hu; rfl
  · unfold maxLen; omega
  · omega
  · simp; omega
  · intro v' w' g1 g2 g3 g4
    have hs2 := g2.size
    simp only [World.size_alloc] at hs2 g4
    have hBw : Below B wr w' := ((Below.refl B wr).alloc hB _).grown g2 (by simp; omega) fun k hk => (hlt0 k hk).1
    have hkeep : ∀ b, b < wr.heap.size → v.ownBlock ≠ some b → w'.heap[b]? = wr.heap[b]? := fun b hb hn => (g2.block b (by simp; omega) fun e => hn e.symm).trans (hbA.block b hb)
    have hnew : ∀ b, b < wr.heap.size → v.ownBlock ≠ some b → v'.ownBlock ≠ some b := fun b hb hn => by
      rcases g4 with g4 | g4
      · rw [g4]; exact hn
      · rw [g4]; intro e; cases e; omega
    refine h v' w' ⟨xs ++ [.slice a' r.length c'], by rw [List.length_append]; exact g1, fun k q e => ?_⟩ hBw hkeep g4
    rcases app_at e with ⟨hk, e⟩ | ⟨hk, e⟩
    · obtain ⟨a1, c1, e1, e2, e3⟩ := h2 k q e
      exact ⟨a1, c1, by rw [List.getElem?_append_left (by omega)]; exact e1, e2, e3.same fun b hb => ⟨⟨hb.1, by omega, hnew b hb.2.1 hb.2.2⟩, hkeep b hb.2.1 hb.2.2⟩⟩
    · have hk0 := lt_of_at e
      simp at hk0
      have hk1 : k = mm.length := by omega
      subst hk1
      obtain rfl : r = q := by simpa using e
      refine ⟨a', c', by rw [← hxl, List.getElem?_append_right (Nat.le_refl _)]; simp, hcap, RIp.ofRI (lo := lo) (hi := hi) ?_ fun b hb1 hb2 => ⟨by omega, by omega, ?_⟩⟩
      · exact hr.same fun b hb1 hb2 => hkeep b (by omega) fun e => by have := hoff b e; omega
      · exact hnew b (by omega) fun e => by have := hoff b e; omega

theorem OwnRR.read {w : World} {B lo hi L : Nat} {v : Value} {mm : List (List Int)} (h : OwnRR w B lo hi v mm) (hB : L ≤ B) (hl : L ≤ lo) (hs : hi ≤ w.heap.size) : ∃ a c, v = .slice a mm.length c ∧ RIIc w L w.heap.size a c mm := by
  have hlt := h.lt
  obtain ⟨xs, h1, h2, h3⟩ := h
  rcases h1.2 with ⟨rfl, h0⟩ | ⟨g, cap, cur, rfl, hb, hg, hn, hm, hx, ht⟩
  · have e : mm = [] := List.eq_nil_of_length_eq_zero h0
    subst e
    exact ⟨none, 0, rfl, RII.nil _ _ _ _, by simp⟩
  · refine ⟨_, _, rfl, fun k hk => ?_, hn⟩
    obtain ⟨r, hr⟩ := at_of_lt hk
    obtain ⟨a, c, e1, e2, e3⟩ := h2 k r hr
    refine ⟨g, 0, a, c, r, rfl, by omega, (hlt g rfl).2, hr, ?_, e2.wide hl hs, e3⟩
    rw [Nat.zero_add, cell_of_row w g k cur _ (0, 0) hg]
    rw [← ht, List.getElem?_take] at e1
    split at e1
    · simpa using e1
    · cases e1
theorem OwnRR.keepW {w w' : World} {B lo hi : Nat} {v : Value} {mm : List (List Int)} (h : OwnRR w B lo hi v mm) (ho : ∀ g, v.ownBlock = Option.some g → w'.heap[g]? = w.heap[g]?) (hr : ∀ k, lo ≤ k → k < hi → w'.heap[k]? = w.heap[k]?) : OwnRR w' B lo hi v mm := by
  obtain ⟨xs, h1, h2, h3⟩ := h
  refine ⟨xs, ?_, fun k r e => ?_, h3⟩
  · obtain ⟨e1, e2⟩ := h1
    refine ⟨e1, ?_⟩
    rcases e2 with e2 | ⟨g, cap, cur, rfl, hB, hg, rest⟩
    · exact .inl e2
    · exact .inr ⟨g, cap, cur, rfl, hB, by rw [ho g rfl]; exact hg, rest⟩
  · obtain ⟨a, c, e1, e2, e3⟩ := h2 k r e
    exact ⟨a, c, e1, e2.same fun j h1 h2 => hr j h1 h2, e3⟩
theorem OwnRR.atR {w : World} {B lo hi : Nat} {v : Value} {mm : List (List Int)} (h : OwnRR w B lo hi v mm) {k : Nat} {r : List Int} (hr : mm[k]? = Option.some r) : ∃ g cap a' c', v = .slice (Option.some ⟨g, 0, none⟩) mm.length cap ∧ g < w.heap.size ∧ w.cell? ⟨g, k, none⟩ = Option.some (.slice a' r.length c') ∧ RI w lo hi a' r ∧ r.length ≤ c' := by
  have hlt := h.lt
  obtain ⟨xs, h1, h2, h3⟩ := h
  have hk := lt_of_at hr
  rcases h1.2 with ⟨rfl, h0⟩ | ⟨g, cap, cur, rfl, hb, hg, hn, hm, hx, ht⟩
  · omega
  · obtain ⟨a, c, e1, e2, e3⟩ := h2 k r hr
    refine ⟨g, cap, a, c, rfl, (hlt g rfl).2, ?_, e2, e3⟩
    rw [cell_of_row w g k cur _ (0, 0) hg]
    rw [← ht, List.getElem?_take] at e1
    split at e1
    · simpa using e1
    · cases e1
theorem hvF_yes {f k : Nat} {ps : List (List Int)} {r : List Int} (hx : ps[k]? = some r) (h : at5 r f ≠ -1) : hvF f (ps.take (k + 1)) = hvF f (ps.take k) ++ [r] := by
  unfold hvF; rw [take_snoc hx, List.filter_append]; simp [h]
theorem hvF_no {f k : Nat} {ps : List (List Int)} {r : List Int} (hx : ps[k]? = some r) (h : at5 r f = -1) : hvF f (ps.take (k + 1)) = hvF f (ps.take k) := by
  unfold hvF; rw [take_snoc hx, List.filter_append]; simp [h]
theorem rstP_yesW {k : Nat} {ps : List (List Int)} {r x : List Int} (hx : ps[k]? = some r) (h : mB r x = false) : rstP (ps.take (k + 1)) x = rstP (ps.take k) x ++ [r] := by
  unfold rstP; rw [take_snoc hx, List.filter_append]; simp [h]
theorem rstP_noW {k : Nat} {ps : List (List Int)} {r x : List Int} (hx : ps[k]? = some r) (h : mB r x = true) : rstP (ps.take (k + 1)) x = rstP (ps.take k) x := by
  unfold rstP; rw [take_snoc hx, List.filter_append]; simp [h]

set_option maxRecDepth 100000 in
set_option maxHeartbeats 16000000 in
theorem s_widen {M : List Int} {s : List (List Int)} {a a' : Option Addr} {c c' lo hi lo' hi' f n : Nat} {w : World} {t : Int} (hok : okM M = true) (hm : RI w lo hi a M) (hB : hi ≤ w.heap.size) (hs : RII w lo' hi' a' s) (hB' : hi' ≤ w.heap.size) (hsl : s.length ≤ 20) (hf : M.length = f + 1) (hf1 : 1 ≤ f) (hn : M[f]? = some (n : Int)) (hn1 : 1 ≤ n) (hn3 : n ≤ 3) (hr : ∀ r ∈ s, r.length = f) (ht0 : 0 ≤ t) (ht1 : t ≤ 5) :
    Calls Try.prog 23 #[.slice a M.length c, .slice a' s.length c', .int .i64 t] w (GotII w (wdG n s (hvF f (patS M [] t))).1) := by
  have hm5 := okM_len hok
  have HM0 := Lib.hid hm; have HS0 := Lib.hid hs
  have HR := Lib.hid hr; clear hr
  have HPR : Hid (∀ r ∈ patS M [] t, r.length = f + 1) := by show ∀ r ∈ _, _; intro r hr; have := patS_row r hr; rw [hf] at this; exact this
  have HPL : Hid ((patS M [] t).length ≤ 1024) := patS_len hok t
  obtain ⟨P, hPe⟩ : ∃ P, patS M [] t = P := ⟨_, rfl⟩
  rw [hPe] at HPR HPL ⊢
  have HPE := Lib.hid hPe
  obtain ⟨LF, hLF⟩ : ∃ L, hvF f P = L := ⟨_, rfl⟩
  rw [hLF]
  have HLF := Lib.hid hLF
  have hlfl : LF.length ≤ 1024 := by have := List.length_filter_le (fun p => !(at5 p f == -1)) P; rw [← hLF]; have h2 := HPL.out; unfold hvF; omega
  have HLR : Hid (∀ r ∈ LF, r.length = f + 1) := fun r hr => by rw [← hLF] at hr; exact HPR.out r (hvF_mem hr)
  clear hPe hLF
  have HFL := Lib.hid hf
  have hw : IntKind.i64.wrap ((M.length : Int) - 1) = (f : Int) := by rw [IntWalk.i64_in _ (by omega)]; omega
  obtain ⟨W1, hW1⟩ : ∃ W, w.alloc (.cells #[] 22) = W := ⟨_, rfl⟩
  have hb1 : Below w.heap.size w W1 := by rw [← hW1]; exact (Below.refl w.heap.size w).alloc (Nat.le_refl _) _
  have hz1 : W1.heap.size = w.heap.size + 1 := by rw [← hW1]; simp
  have ho1 : OwnX W1 w.heap.size (.slice (some ⟨w.heap.size, 0, none⟩) 0 0) [] := by rw [← hW1]; exact OwnX.made w w.heap.size (Nat.le_refl _)
  have hbL := (Below.refl W1.heap.size W1).alloc (Nat.le_refl _) (.cells #[] 22)
  have hzL : (W1.alloc (.cells #[] 22)).heap.size = W1.heap.size + 1 := by simp
  have hbH := (Below.refl (W1.alloc (.cells #[] 22)).heap.size (W1.alloc (.cells #[] 22))).alloc (Nat.le_refl _) (.cells #[] 3)
  have hzH : ((W1.alloc (.cells #[] 22)).alloc (.cells #[] 3)).heap.size = W1.heap.size + 2 := by simp
  obtain ⟨W3, hW3⟩ : ∃ W, (W1.alloc (.cells #[] 22)).alloc (.cells #[] 3) = W := ⟨_, rfl⟩
  rw [hW3] at hbH hzH
  have hb13 : Below W1.heap.size W1 W3 := hbL.trans (hbH.mono (by omega))
  have hb03 : Below w.heap.size w W3 := hb1.trans (hb13.mono (by omega))
  have HW1 := Lib.hid hW1; have HW3 := Lib.hid hW3
  have hM5 : M.length ≤ 5 := hm5.2
  have hn0 : (W1.alloc (.cells #[] 22)).heap.size = W1.heap.size + 1 := by simp
  have hfM : f < M.length := by omega
  have hf4 : f ≤ 4 := by omega
  clear hW1 hW3 hf hbL hzL hbH hn0
  go_enter Try.func23, Try.ntmps23
  go_wp2_with fail
  rw [HW1.out, HW3.out]
  refine (s_patterns hok M.length [] a _ c 0 lo hi 0 0 W3 t (by simp) (hm.below hb03 hB) (by have := hb03.size; omega) (RI.nil _ _ _ _) (by simp) (by omega) (by omega)).mono ?_
  rintro e w4 ⟨ad, cc, rfl, hP, hb4⟩
  have hz4 := hb4.size
  have hz03 := hb03.size
  rw [HPE.out] at hP
  rw [HPE.out]
  have hPL := HPL.out
  have hb04 := hb03.trans (hb4.mono (by omega))
  have hb14 : Below W1.heap.size W1 w4 := hb13.trans (hb4.mono (by omega))
  have ho4 : OwnX w4 w.heap.size (.slice (some ⟨w.heap.size, 0, none⟩) 0 0) [] := ho1.below hb14
  have hstL : OwnRR w4 W1.heap.size W3.heap.size w4.heap.size (.slice (some ⟨W1.heap.size, 0, none⟩) 0 0) [] := by
    refine OwnRR.start (Nat.le_refl _) (by omega) ?_
    have h1 := (Below.refl (W1.heap.size + 1) (W1.alloc (.cells #[] 22))).alloc (by simp) (.cells #[] 3)
    rw [HW3.out] at h1
    exact h1.trans (hb4.mono (by omega))
  have hm4 := hm.below hb04 hB
  have hs4 := hs.below hb04 hB'
  have hPr := hP.rii
  clear hP hm hs ho1 hb1 hb13 hb4 hb03 HW3 HW1
  have hq0 := Kp.refl W1.heap.size W3.heap.size w4.heap.size w4
  have hstL2 : OwnRR w4 W1.heap.size W3.heap.size w4.heap.size (.slice (some ⟨w.heap.size + 1, 0, none⟩) 0 0) [] := by rw [← hz1]; exact hstL
  clear hstL
  have HNV := Lib.hid hn; clear hn
  go_wp2
  go_loopw [9, 11] (fun v i wr => ∃ k : Nat, k ≤ P.length ∧ i = .int .i64 k ∧ OwnRR wr W1.heap.size W3.heap.size w4.heap.size v (hvF f (P.take k)) ∧ Kp W1.heap.size W3.heap.size w4.heap.size w4 wr) (fun _ i _ => P.length - (intOf i).toNat)
  case atStart => exact ⟨0, Nat.zero_le _, rfl, hstL2, hq0⟩
  case round =>
    clear hstL2 hq0
    obtain ⟨k, hk, rfl, hown, hd⟩ := hrel
    have hz := hd.size
    have hPk := hPr.kp hd (Nat.le_refl _)
    by_cases hlt : k < P.length
    · obtain ⟨b, o, a3, c3, r, ha, hb1, hb2, hcell, hrr, hx, hcp⟩ := hPk.atc hlt
      have hidx := idxII ha hlt cc
      have hrl := HPR.out r (List.mem_of_getElem? hx.out)
      have hfr : f < r.length := by omega
      obtain ⟨b5, o5, x, ha5, _, _, hc5, hx5⟩ := hrr.at hfr
      have hidx5 := idxI ha5 hfr c3
      have hat : at5 r f = x := at5_of hx5.out
      have hll : (hvF f (P.take k)).length ≤ 1024 := by have := List.length_filter_le (fun p => !(at5 p f == -1)) (P.take k); have := List.length_take_le k P; unfold hvF; omega
      have hrl5 : r.length ≤ 5 := by omega
      by_cases hxa : x = -1
      · have HN := Lib.hid (hvF_no hx.out (by rw [hat]; exact hxa))
        have hne : (x != -1) = false := by simp [hxa]
        rw [← HN.out] at hown
        clear ha ha5 hrl hat hx hx5 hxa
        go_wp2
        go_roundw
        case rel => exact ⟨k + 1, by omega, by go_num, hown, hd⟩
        case measure => simp [intOf]; omega
      · have HN := Lib.hid (hvF_yes hx.out (by rw [hat]; exact hxa))
        have hne : (x != -1) = true := by simp [hxa]
        clear ha ha5 hrl hat hx hx5 hxa
        go_wp2_with (first
          | (at_builtin; refine wpList_appR1 rfl (.tmp 41) (.tmp 46) (by rfl) W1.heap.size W3.heap.size w4.heap.size _ (hvF f (P.take k)) (by rfl) hown (by omega) (by omega) r a3 r.length c3 (by rfl) hrr hcp wr.heap.size (by rfl) (by rfl) (by omega) ?_; intro v3 w3' hown3 hk3 _)
          | go_in)
        rw [← HN.out] at hown3
        have hd3 := hd.trans hk3
        clear hown hk3 hd
        go_roundw
        case rel => exact ⟨k + 1, by omega, by go_num, hown3, hd3⟩
        case measure => simp [intOf]; omega
    · have HT : Hid (P.take k = P) := List.take_of_length_le (by omega)
      rw [HT.out] at hown
      rw [HLF.out] at hown
      have hdb : Below W1.heap.size w4 wr := hd.below (by omega)
      have hbw := hb04.trans (hdb.mono (by omega))
      have ho5 : OwnX wr w.heap.size (.slice (some ⟨w.heap.size, 0, none⟩) 0 0) [] := by
        obtain ⟨xs, ⟨e1, e2⟩, e3⟩ := ho4
        refine ⟨xs, ⟨e1, ?_⟩, fun k r e => by simp at e⟩
        rcases e2 with e2 | ⟨g, cap, cur, e4, e5, e6, rest⟩
        · exact .inl e2
        · refine .inr ⟨g, cap, cur, e4, e5, ?_, rest⟩
          cases e4
          rw [hdb.block _ (by omega)]; exact e6
      obtain ⟨la, lc, rfl, hLr⟩ := hown.read (L := W1.heap.size) (Nat.le_refl _) (by omega) (by omega)
      clear hLr
      have HNE : Hid (∀ g, Value.ownBlock (.slice la LF.length lc) = some g → Value.ownBlock (.slice (some ⟨w.heap.size, 0, none⟩) 0 0) ≠ some g) := fun g hg e => by
        have := hown.lt g hg
        simp [Value.ownBlock] at e; omega
      have HOF : Hid (∀ g, Value.ownBlock (.slice (some ⟨w.heap.size, 0, none⟩) 0 0) = some g → g < W3.heap.size ∨ w4.heap.size ≤ g) := fun g e => by simp [Value.ownBlock] at e; omega
      obtain ⟨wo, hwo⟩ : ∃ y : World, y = wr := ⟨_, rfl⟩
      subst hwo
      clear hPk hPr ho4 hb04 hb14 hm4 hs4 hd hdb
      have hG0 : Hid (wdG n (s.take 0) LF = ([], LF)) := rfl
      have hw4o : w4.heap.size ≤ wo.heap.size := by omega
      go_wp2
      go_loopw [8, 9, 12, 13, 14, 15, 16, 17] (fun ov lv iv _ _ _ _ _ wr => ∃ (k BL : Nat) (oa la : Option Addr) (oc lc : Nat) (O L : List (List Int)), k ≤ s.length ∧ iv = .int .i64 k ∧ Hid (wdG n (s.take k) LF = (O, L)) ∧ ov = .slice oa O.length oc ∧ lv = .slice la L.length lc ∧ OwnX wr w.heap.size (.slice oa O.length oc) O ∧ W1.heap.size ≤ BL ∧ OwnRR wr BL W3.heap.size w4.heap.size (.slice la L.length lc) L ∧ Hid (∀ g, Value.ownBlock (.slice la L.length lc) = some g → Value.ownBlock (.slice oa O.length oc) ≠ some g) ∧ Hid (∀ g, Value.ownBlock (.slice oa O.length oc) = some g → g < W3.heap.size ∨ w4.heap.size ≤ g) ∧ Below w.heap.size w wr ∧ w4.heap.size ≤ wr.heap.size) (fun _ _ iv _ _ _ _ _ _ => s.length - (intOf iv).toNat)
      case atStart => exact ⟨0, W1.heap.size, _, la, _, lc, [], LF, Nat.zero_le _, rfl, hG0, rfl, rfl, ho5, Nat.le_refl _, hown, HNE, HOF, hbw, hw4o⟩
      case round =>
        clear ho5 hown HNE HOF hbw hw4o hG0
        obtain ⟨k, BL, oa, la2, oc, lc2, O, L, hk, rfl, HG, rfl, rfl, hO, hBL, hL, HNE, HOF, hbw, hw4o⟩ := hrel
        obtain ⟨wk, hwk⟩ : ∃ y : World, y = wr := ⟨_, rfl⟩
        subst hwk
        have hzk := hbw.size
        by_cases hlt : k < s.length
        · obtain ⟨b, o, a3, c3, r, ha, _, hb2, hcell, hr, hx, hcp⟩ := (HS0.out.below hbw hB').atc hlt
          have hidx := idxII ha hlt c'
          have hrf := HR.out r (List.mem_of_getElem? hx.out)
          have HRF := Lib.hid hrf
          have hrl : r.length ≤ 4 := by omega
          have hne : r ≠ [] := by intro e; rw [e] at hrf; simp at hrf; omega
          have HSN : Hid (wdG n (s.take (k + 1)) LF = (O ++ [wdB n L r], rstP L (wdB n L r))) := by show _ = _; rw [take_snoc hx.out, wdG_snoc, HG.out]
          have HLL : Hid (∀ p ∈ L, p.length = f + 1) := fun p hp => HLR.out p (wdG_left n (s.take k) LF p (by rw [HG.out]; exact hp))
          have hLl : L.length ≤ 1024 := by have := (wdG_len n (s.take k) LF).2; rw [HG.out] at this; simp at this; omega
          have hOl : O.length ≤ 20 := by have := (wdG_len n (s.take k) LF).1; rw [HG.out] at this; simp at this; omega
          obtain ⟨b5, o5, y, ha5, _, hb5, hc5, hy⟩ := (HM0.out.below hbw hB).at hfM
          have hidx5 := idxI ha5 hfM c
          obtain rfl : y = (n : Int) := by have := hy.out; rw [HNV.out] at this; exact (Option.some.inj this).symm
          have hch0 := OwnX.made wk wk.heap.size (Nat.le_refl _)
          have hbc := (Below.refl wk.heap.size wk).alloc (Nat.le_refl _) (.cells #[] 22)
          clear ha ha5 hrf hx hy hcp
          go_wp2
          go_loopw [13, 14] (fun cv xv wr => ∃ x : Nat, x ≤ n ∧ xv = .int .i64 x ∧ OwnX wr wk.heap.size cv (wdC x r) ∧ Below wk.heap.size wk wr) (fun _ xv _ => n - (intOf xv).toNat)
          case atStart => exact ⟨0, Nat.zero_le _, rfl, hch0, hbc⟩
          case round =>
            clear hch0 hbc
            obtain ⟨x, hxn, rfl, hch, hdx⟩ := hrel
            have hzx := hdx.size
            have hc5x := (hdx.cell (p := ⟨b5, o5 + f, none⟩) (by show b5 < _; omega)).trans hc5
            by_cases hlx : x < n
            · have hbA := (Below.refl wr.heap.size wr).alloc (Nat.le_refl _) (.cells #[] 3)
              have hcx := (hdx.cell (p := ⟨b, o + k, none⟩) (by show b < _; omega)).trans hcell
              have hcA := (hbA.cell (p := ⟨b, o + k, none⟩) (by show b < _; omega)).trans hcx
              have hrA := (hr.below hdx (by omega)).below hbA (by omega)
              have hstr := OwnL.made wr wr.heap.size (Nat.le_refl _)
              have hzA : wr.heap.size ≤ (wr.alloc (.cells #[] 3)).heap.size := by simp
              have hwl : (wdC x r).length ≤ 3 := by rw [wdC_len]; omega
              have HWD := Lib.hid (wdC_succ x r)
              have HLT := Lib.hid hch.lt
              clear hcell hr hbA hcx
              go_wp2_with (first
                | (at_builtin; refine wpList_appN rfl (.tmp 64) (.tmp 68) (by rfl) wr.heap.size _ [] (by rfl) hstr r _ _ c3 a3 (by rfl) hrA hne (by simp) (by omega) hzA ?_; intro v5 w5 hown5 hb5; simp only [List.nil_append] at hown5; have hb05 := chain1 hb5; have hz5 := hb05.size)
                | (at_builtin; refine wpList_app1 rfl (.tmp 69) (.tmp 71) (by rfl) wr.heap.size _ r (by rfl) hown5 (x : Int) (by rfl) (by omega) hz5 ?_; intro v6 w6 hown6 hb6; obtain ⟨l, hl⟩ : ∃ l, r ++ [(x : Int)] = l := ⟨_, rfl⟩; rw [hl] at hown6; obtain ⟨qa, qc, rfl, hoi⟩ := hown6.slice; have hb06 := hb05.trans hb6; have hz6 := hb06.size; have hch6 := hch.below hb06; have HL := Lib.hid hl; clear hl hown6)
                | (at_builtin; refine wpList_appXW rfl (.tmp 63) (.tmp 73) (by rfl) wk.heap.size wr.heap.size w6.heap.size _ (wdC x r) (by rfl) hch6 (by omega) l qa l.length qc (by rfl) hoi.ri hoi.cap (by omega) (by omega) (fun g hg => .inl (HLT.out g hg).2) w6.heap.size (by rfl) (by rfl) (by omega) ?_; intro v7 w7 hch7 hb7 _ _)
                | go_in)
              have hdx7 := hdx.trans ((hb06.mono (by omega)).trans hb7)
              rw [← HL.out, ← HWD.out] at hch7
              clear hch hch6 hdx hb05 hb5 hb6 hb06 hb7 hoi hown5 hstr hrA hcA hc5x
              go_roundw
              case rel => exact ⟨x + 1, by omega, by go_num, hch7, hdx7⟩
              case measure => simp [intOf]; omega
            · obtain rfl : x = n := by omega
              have hLx := hL.below hdx (by omega)
              have hOx := hO.below hdx
              obtain ⟨ca, cc2, rfl, hC⟩ := hch.riic
              obtain ⟨C, hC0⟩ : ∃ C, wdC x r = C := ⟨_, rfl⟩
              have hCl : C.length = x := by rw [← hC0]; exact wdC_len x r
              have HCR : Hid (∀ q ∈ C, q.length = f + 1) := fun q hq => by rw [← hC0] at hq; have := wdC_row hq; rw [HRF.out] at this; exact this
              have HC0 := Lib.hid hC0
              have hCne : C ≠ [] := by intro e; rw [e] at hCl; simp at hCl; omega
              have hCl3 : C.length ≤ 3 := by omega
              have HLLe : Hid (∀ p ∈ L, p.length ≤ f + 1) := fun p hp => by have := HLL.out p hp; omega
              rw [hC0] at hC ⊢
              clear hC0 hCl hch
              obtain ⟨la', lc', e1, hLr⟩ := hLx.read (L := W1.heap.size) hBL (by omega) (by omega)
              cases e1
              go_wp2_with fail
              refine (s_bestTest (n := f + 1) hC.rii hLr.rii hCne (by omega) (by omega) HCR.out HLLe.out (by omega)).mono ?_
              rintro e w5 ⟨ba, bc, rfl, hbt, hbtl, hbcc, d5⟩
              have d5 : Dr wr w5 := d5
              have hb5x := Dr.below d5 wr.heap.size
              have hz5 := Dr.le d5
              obtain ⟨T, hT0⟩ : ∃ T, bstL (frP L) C = T := ⟨_, rfl⟩
              have HT0 : Hid (wdB x L r = T) := by show _ = _; unfold wdB; rw [HC0.out]; exact hT0
              rw [hT0] at hbt hbtl
              have hO5 := hOx.below hb5x
              have hL5 := hLx.below hb5x (by omega)
              have HTL := Lib.hid hbtl
              have HOLT := Lib.hid hO.lt
              have hdx5 := hdx.trans (hb5x.mono (by omega))
              clear hT0 hLr hC hOx hLx hO hL hb5x d5 hdx hc5x hcell hr hbtl
              go_wp2_with (first
                | (at_builtin; refine wpList_appXW rfl (.tmp 78) (.tmp 80) (by rfl) w.heap.size wk.heap.size wr.heap.size _ O (by rfl) hO5 (by omega) T ba (f + 1) bc HTL.out.symm hbt (by have := HTL.out; omega) (by omega) (by omega) (fun g hg => .inl (HOLT.out g hg).2) w5.heap.size (by rfl) (by rfl) (by omega) ?_; intro v6 w6 hO6 hb6 hk6 ho6)
                | fail)
              have hz6 := hb6.size
              have hL6 := hL5.keepW (w' := w6) (fun g hg => hk6 g (hL5.lt g hg).2 (HNE.out g hg)) (fun j h1 h2 => hk6 j (by omega) (fun e => by have := HOF.out j e; omega))
              have hbt6 := hbt.same (w' := w6) fun j h1 h2 => hk6 j (by omega) (fun e => by have := HOLT.out j e; omega)
              obtain ⟨O2, hO2⟩ : ∃ O2, O ++ [T] = O2 := ⟨_, rfl⟩
              rw [hO2] at hO6
              obtain ⟨oa2, oc2, rfl, _⟩ := hO6.riic
              have hbw6 := hbw.trans ((hdx5.mono (by omega)).trans hb6)
              have HOF6 : Hid (∀ g, Value.ownBlock (.slice oa2 O2.length oc2) = some g → g < W3.heap.size ∨ w4.heap.size ≤ g) := fun g hg => by
                rcases ho6 with h | h
                · rw [h] at hg; exact HOF.out g hg
                · rw [h] at hg; cases hg; right; omega
              have HSN6 : Hid (wdG x (s.take (k + 1)) LF = (O2, rstP L T)) := by show _ = _; rw [HSN.out, HT0.out, hO2]
              have HOL6 := Lib.hid hO6.lt
              have hst := OwnRR.made w6 w6.heap.size W3.heap.size w4.heap.size (Nat.le_refl _) (.inr (by omega))
              have hbr := (Below.refl w6.heap.size w6).alloc (Nat.le_refl _) (.cells #[] 22)
              clear hO2 hL5 hbt hO5 hk6 ho6 hb6 hbw hdx5
              try go_wp2
              go_loopw [16, 17] (fun rv kv wr => ∃ q : Nat, q ≤ L.length ∧ kv = .int .i64 q ∧ OwnRR wr w6.heap.size W3.heap.size w4.heap.size rv (rstP (L.take q) T) ∧ Below w6.heap.size w6 wr) (fun _ kv _ => L.length - (intOf kv).toNat)
              case atStart => exact ⟨0, Nat.zero_le _, rfl, hst, hbr⟩
              case round =>
                clear hst hbr
                obtain ⟨q, hq, rfl, hown, hdq⟩ := hrel
                have hzq := hdq.size
                by_cases hlq : q < L.length
                · obtain ⟨p, hp⟩ := at_of_lt hlq
                  have hpl := HLL.out p (List.mem_of_getElem? hp)
                  obtain ⟨g, cap, pa, pc, ev, hg, hcp, hpr, hpc⟩ := (hL6.below hdq (by omega)).atR hp
                  cases ev
                  have hidq := idxII (a := some ⟨g, 0, none⟩) rfl hlq lc2
                  simp only [Nat.zero_add] at hidq
                  have hbtq := hbt6.below hdq (by omega)
                  have hrll : (rstP (L.take q) T).length ≤ 1024 := by have := List.length_filter_le (fun p => !mB p T) (L.take q); have := List.length_take_le q L; unfold rstP; omega
                  have hpl5 : p.length ≤ f + 1 := by omega
                  obtain ⟨y, hy⟩ : ∃ y, mB p T = y := ⟨_, rfl⟩
                  clear hpl
                  go_wp2_with fail
                  refine (s_matchesN HTL.out hy hpr hbtq hpl5 (by omega)).mono ?_
                  rintro e w8 ⟨rfl, d8⟩
                  have d8 : Dr wr w8 := d8
                  have hb8 := Dr.below d8 wr.heap.size
                  have hz8 := Dr.le d8
                  have hown8 := hown.below hb8 (by omega)
                  have hcp8 := (hb8.cell (p := ⟨g, q, none⟩) (by show g < _; omega)).trans hcp
                  have hpr8 := hpr.below hb8 (by omega)
                  have hdq8 := hdq.trans (hb8.mono (by omega))
                  clear hown hcp hpr hdq hb8 d8 hbtq
                  cases y
                  · have HST := Lib.hid (rstP_yesW hp hy)
                    clear hp hy
                    go_wp2_with (first
                      | (at_builtin; refine wpList_appR1 rfl (.tmp 96) (.tmp 101) (by rfl) w6.heap.size W3.heap.size w4.heap.size _ (rstP (L.take q) T) (by rfl) hown8 (by omega) (by omega) p pa p.length pc (by rfl) hpr8 hpc w8.heap.size (by rfl) (by rfl) (by omega) ?_; intro v9 w9 hown9 hk9 _)
                      | go_in)
                    rw [← HST.out] at hown9
                    have hdq9 := hdq8.trans (hk9.below (by omega))
                    clear hown8 hk9 hcp8 hpr8 hdq8
                    go_roundw
                    case rel => exact ⟨q + 1, by omega, by go_num, hown9, hdq9⟩
                    case measure => simp [intOf]; omega
                  · have HST := Lib.hid (rstP_noW hp hy)
                    clear hp hy
                    rw [← HST.out] at hown8
                    go_wp2
                    go_roundw
                    case rel => exact ⟨q + 1, by omega, by go_num, hown8, hdq8⟩
                    case measure => simp [intOf]; omega
                · have HTQ : Hid (L.take q = L) := List.take_of_length_le (by omega)
                  rw [HTQ.out] at hown
                  obtain ⟨ra, rc, rfl, _⟩ := hown.read (L := W1.heap.size) (by omega) (by omega) (by omega)
                  have HNE9 : Hid (∀ g, Value.ownBlock (.slice ra (rstP L T).length rc) = some g → Value.ownBlock (.slice oa2 O2.length oc2) ≠ some g) := fun g hg e => by
                    have h1 := hown.lt g hg
                    have h2 := HOL6.out g e
                    omega
                  have hO9 := hO6.below hdq
                  have hbw9 := hbw6.trans (hdq.mono (by omega))
                  clear hO6 hL6 hbt6 hbw6 hdq
                  go_wp2
                  go_roundw
                  case rel => exact ⟨k + 1, w6.heap.size, oa2, ra, oc2, rc, O2, rstP L T, by omega, by go_num, HSN6, rfl, rfl, hO9, by omega, hown, HNE9, HOF6, hbw9, by omega⟩
                  case measure => simp [intOf]; omega
        · have HT : Hid ((wdG n s LF).1 = O) := by show _ = _; rw [← List.take_of_length_le (show s.length ≤ k by omega), HG.out]
          obtain ⟨oa', oc', e1, hR⟩ := hO.riic
          cases e1
          go_wp2
          go_ret
          rw [HT.out]
          exact ⟨_, _, rfl, hR, hbw⟩

/- Walks: AddFactor by the document's reference. -/
open Go.RowKit

theorem adB_no {m : List Int} {s : List (List Int)} {l t : Int} (h : adG m s l t = false) : adL m s l t = [] ∧ adB m s l t = false := by
  have h2 : adB m s l t = false := by unfold adB; rw [h]; rfl
  exact ⟨ad_no h2, h2⟩

set_option maxRecDepth 100000 in
set_option maxHeartbeats 8000000 in
theorem s_AddFactor {m : List Int} {s : List (List Int)} {a a' : Option Addr} {c c' lo hi lo' hi' : Nat} {w : World} {l t : Int} (hm : RI w lo hi a m) (hlm : m.length ≤ 9223372036854775807) (hs : RII w lo' hi' a' s) (hls : s.length ≤ 9223372036854775807) (hg : ∀ r ∈ s, r.length ≤ 9223372036854775807) (_hl0 : -9223372036854775808 ≤ l) (_hl1 : l ≤ 9223372036854775807) (_ht0 : -9223372036854775808 ≤ t) (_ht1 : t ≤ 9223372036854775807) (hB : hi ≤ w.heap.size) (hB' : hi' ≤ w.heap.size) :
    Calls Try.prog 6 #[.slice a m.length c, .slice a' s.length c', .int .i64 l, .int .i64 t] w (NewIIB w (adL m s l t) (adB m s l t)) := by
  have HG := Lib.hid hg; clear hg
  cases hok : okM m
  · have HN := Lib.hid (adB_no (show adG m s l t = false by unfold adG; rw [hok]; rfl))
    have HOK := Lib.hid hok; clear hok
    go_enter Try.func6, Try.ntmps6
    go_wp2_with fail
    refine (s_validModel hm hlm).mono ?_
    rintro e w1 ⟨rfl, hd⟩
    rw [HOK.out]
    go_wp2
    go_ret2
    exact NewIIB.none HN.out (Dr.below hd _)
  have hm5 := okM_len hok
  have HOK := Lib.hid hok; clear hok
  cases hos : okS m s
  · have HN := Lib.hid (adB_no (show adG m s l t = false by unfold adG; rw [hos]; simp))
    have HOS := Lib.hid hos; clear hos
    go_enter Try.func6, Try.ntmps6
    go_wp2_with fail
    refine (s_validModel hm hlm).mono ?_
    rintro e w1 ⟨rfl, hd⟩
    rw [HOK.out]
    go_wp2_with fail
    refine (s_validSuite (hm.dr hd) (hs.dr hd) HOK.out hls HG.out).mono ?_
    rintro e w2 ⟨rfl, hd2⟩
    have hd := Dr.trans hd hd2
    rw [HOS.out]
    go_wp2
    go_ret2
    exact NewIIB.none HN.out (Dr.below hd _)
  have hsl := okS_len hos
  have HOS := Lib.hid hos; clear hos
  by_cases h5 : 5 ≤ m.length
  · have HN := Lib.hid (adB_no (show adG m s l t = false by unfold adG; rw [show decide (m.length < 5) = false from decide_eq_false (by omega)]; simp))
    go_enter Try.func6, Try.ntmps6
    go_wp2_with fail
    refine (s_validModel hm hlm).mono ?_
    rintro e w1 ⟨rfl, hd⟩
    rw [HOK.out]
    go_wp2_with fail
    refine (s_validSuite (hm.dr hd) (hs.dr hd) HOK.out hls HG.out).mono ?_
    rintro e w2 ⟨rfl, hd2⟩
    have hd := Dr.trans hd hd2
    rw [HOS.out]
    go_wp2
    go_ret2
    exact NewIIB.none HN.out (Dr.below hd _)
  cases hil : inR l 1 3
  · have HN := Lib.hid (adB_no (show adG m s l t = false by unfold adG; rw [hil]; simp))
    have HIL := Lib.hid hil; clear hil
    go_enter Try.func6, Try.ntmps6
    go_wp2_with fail
    refine (s_validModel hm hlm).mono ?_
    rintro e w1 ⟨rfl, hd⟩
    rw [HOK.out]
    go_wp2_with fail
    refine (s_validSuite (hm.dr hd) (hs.dr hd) HOK.out hls HG.out).mono ?_
    rintro e w2 ⟨rfl, hd2⟩
    have hd := Dr.trans hd hd2
    rw [HOS.out]
    go_wp2_with fail
    refine (s_inRange l 1 3 w2).mono ?_
    rintro e w3 ⟨rfl, hd3⟩
    have hd := Dr.trans hd hd3
    rw [HIL.out]
    go_wp2
    go_ret2
    exact NewIIB.none HN.out (Dr.below hd _)
  have hl13 := inR_true.1 hil
  have HIL := Lib.hid hil; clear hil
  cases hit : inR t 1 ((m.length : Int) + 1)
  · have HN := Lib.hid (adB_no (show adG m s l t = false by unfold adG; rw [hit]; simp))
    have HIT := Lib.hid hit; clear hit
    go_enter Try.func6, Try.ntmps6
    go_wp2_with fail
    refine (s_validModel hm hlm).mono ?_
    rintro e w1 ⟨rfl, hd⟩
    rw [HOK.out]
    go_wp2_with fail
    refine (s_validSuite (hm.dr hd) (hs.dr hd) HOK.out hls HG.out).mono ?_
    rintro e w2 ⟨rfl, hd2⟩
    have hd := Dr.trans hd hd2
    rw [HOS.out]
    go_wp2_with fail
    refine (s_inRange l 1 3 w2).mono ?_
    rintro e w3 ⟨rfl, hd3⟩
    have hd := Dr.trans hd hd3
    rw [HIL.out]
    go_wp2_with fail
    refine (s_inRange t 1 ((m.length : Int) + 1) w3).mono ?_
    rintro e w4 ⟨rfl, hd4⟩
    have hd := Dr.trans hd hd4
    rw [HIT.out]
    go_wp2
    go_ret2
    exact NewIIB.none HN.out (Dr.below hd _)
  have ht := inR_true.1 hit
  have HADG : Hid (adG m s l t = true) := by show _ = _; unfold adG; rw [HOK.out, HOS.out, HIL.out, hit, show decide (m.length < 5) = true from decide_eq_true (by omega)]; rfl
  have HIT := Lib.hid hit; clear hit
  obtain ⟨N, rfl⟩ := Int.eq_ofNat_of_zero_le (show 0 ≤ l by omega)
  have HAE := Lib.hid (ad_eq HADG.out)
  have hMok := adM_ok HOK.out (by omega) hl13.1 hl13.2
  have hCW := adW_ok HADG.out
  have hWD0 : (wdG N s (hvF m.length (patS (adM m (N : Int)) [] t))).1 = adW m s (N : Int) t := by unfold adW; rw [Int.toNat_natCast]
  have hMl : (adM m (N : Int)).length = m.length + 1 := by simp [adM]
  have hMa : (adM m (N : Int))[m.length]? = some (N : Int) := by simp [adM]
  have hMe : m ++ [(N : Int)] = adM m (N : Int) := rfl
  obtain ⟨W, hW⟩ : ∃ W, adW m s (N : Int) t = W := ⟨_, rfl⟩
  obtain ⟨M, hM⟩ : ∃ M, adM m (N : Int) = M := ⟨_, rfl⟩
  rw [hW] at HAE hCW hWD0
  rw [hM] at HAE hCW hWD0 hMok hMl hMa hMe
  have hp := okC_parts hCW
  have HR := Lib.hid hp.2.2.2
  have hWl := hp.2.2.1
  have HC := Lib.hid hCW
  have HMOK := Lib.hid hMok
  have HNE := Lib.hid (ext_ne HMOK.out)
  have HRow := Lib.hid (ext_row (m := M))
  have HLN := Lib.hid (ext_len HMOK.out)
  have HML := Lib.hid (misL_len (s := W) (t := t) HMOK.out)
  have HMR := Lib.hid (misL_row (m := M) (s := W) (t := t))
  have HSR : Hid (∀ r ∈ W, r ≠ [] ∧ r.length ≤ 1048576) := by
    intro r hr
    have := HR.out r hr
    exact ⟨by intro e; rw [e] at this; simp at this; omega, by omega⟩
  have HGS : Hid (adL m s (N : Int) t = grL (gsR M W t) ∧ adB m s (N : Int) t = grB (gsR M W t)) := by
    show _ ∧ _
    rw [HAE.out.1, HAE.out.2]
    unfold gsL gsB grL grB; rw [HC.out, Bool.true_and]; exact ⟨rfl, rfl⟩
  have HGE : Hid (gsR M W t = grS (extS M []) (21 - W.length) W (misL M W t)) := rfl
  have hgl := (grS_len (extS M []) (21 - W.length) W (misL M W t)).2
  have HWD := Lib.hid hWD0; have HMA := Lib.hid hMa; have HMLN := Lib.hid hMl; have HME := Lib.hid hMe
  have hm0 : m ≠ [] := by intro e; rw [e] at hm5; simp at hm5
  have hM5 : M.length ≤ 5 := by omega
  have hSL : ∀ r ∈ s, r.length = m.length := fun r hr => okW_len (okS_all HOS.out hr)
  have HSL := Lib.hid hSL
  clear hW hM hp hCW hMok hWD0 hMa hMl hMe hSL
  go_enter Try.func6, Try.ntmps6
  go_wp2_with fail
  refine (s_validModel hm hlm).mono ?_
  rintro e w1 ⟨rfl, hd⟩
  rw [HOK.out]
  go_wp2_with fail
  refine (s_validSuite (hm.dr hd) (hs.dr hd) HOK.out hls HG.out).mono ?_
  rintro e w2 ⟨rfl, hd2⟩
  have hd := Dr.trans hd hd2
  rw [HOS.out]
  go_wp2_with fail
  refine (s_inRange (N : Int) 1 3 w2).mono ?_
  rintro e w3 ⟨rfl, hd3⟩
  have hd := Dr.trans hd hd3
  rw [HIL.out]
  go_wp2_with fail
  refine (s_inRange t 1 ((m.length : Int) + 1) w3).mono ?_
  rintro e w5 ⟨rfl, hd4⟩
  have hd : Dr w w5 := Dr.trans hd hd4
  rw [HIT.out]
  have hz5 := Dr.le hd
  have hm1 := hm.dr hd
  have hs1 := hs.dr hd
  have hbA := (Below.refl w5.heap.size w5).alloc (Nat.le_refl _) (.cells #[] 3)
  have hmA := hm1.below hbA (by omega)
  have hstr := OwnL.made w5 w5.heap.size (Nat.le_refl _)
  have hzA : w5.heap.size ≤ (w5.alloc (.cells #[] 3)).heap.size := by simp
  clear hd2 hd3 hd4 hbA
  go_wp2_with (first
    | (at_builtin; refine wpList_appN rfl (.tmp 39) (.tmp 40) (by rfl) w5.heap.size _ [] (by rfl) hstr m _ _ c a (by rfl) hmA hm0 (by simp) (by omega) hzA ?_; intro v6 w6 hown6 hb6; simp only [List.nil_append] at hown6; have hb06 := chain1 hb6; have hz6 := hb06.size)
    | (at_builtin; refine wpList_app1 rfl (.tmp 41) (.tmp 43) (by rfl) w5.heap.size _ m (by rfl) hown6 (N : Int) (by rfl) (by omega) hz6 ?_; intro v7 w7 hown7 hb7; rw [HME.out] at hown7; obtain ⟨Ma, Mc, rfl, hMo⟩ := hown7.slice; have hb07 := hb06.trans hb7; have hz7 := hb07.size)
    | fail)
  refine (s_widen (f := m.length) (n := N) HMOK.out hMo.ri (Nat.le_refl _) (hs1.below hb07 (by omega)) (by omega) hsl HMLN.out (by omega) HMA.out (by omega) (by omega) HSL.out (by omega) (by omega)).mono ?_
  rintro e w8 ⟨Wa, Wc, rfl, hWr, hb8⟩
  rw [HWD.out] at hWr
  rw [HWD.out]
  have hz8 := hb8.size
  have hM8 := hMo.ri.below hb8 (Nat.le_refl _)
  have hb08 := hb07.trans (hb8.mono (by omega))
  clear hMo hb06 hb6 hb7 hb07 hb8 hown6 hown7 hstr hmA
  have hbA := (Below.refl w8.heap.size w8).alloc (Nat.le_refl _) (.cells #[] 3)
  go_wp2_with fail
  refine (s_extend HMOK.out M.length [] Ma ⟨w8.heap.size, 0, none⟩ Mc 0 _ w7.heap.size 0 0 _ (by simp) (hM8.below hbA (by omega)) (by simp; omega) (RI.nil _ _ _ _) (by simp)).mono ?_
  rintro e w9 ⟨ad2, c2, rfl, h2, hb2⟩
  obtain ⟨ps, hps⟩ : ∃ ps, extS M [] = ps := ⟨_, rfl⟩
  rw [hps] at h2 HNE HRow HLN HGE hgl ⊢
  clear hps
  have hb89 : Below w8.heap.size w8 w9 := hbA.trans (hb2.mono (by simp))
  have hs9 := hb89.size
  have hall : RII w9 w8.heap.size w9.heap.size (some ad2) ps := h2.rii.wide (by simp) (Nat.le_refl _)
  have hpl := HLN.out
  have hM9 := hM8.below hb89 (by omega)
  have hW9 := hWr.rii.below hb89 (Nat.le_refl _)
  clear h2 hb2 hbA hM8 hWr
  go_wp2_with fail
  refine (s_missing HMOK.out hM9 (by omega) hW9 (by omega) (by omega) HR.out (by omega) (by have := HMLN.out; omega)).mono ?_
  rintro e w10 ⟨a3, c3, rfl, h3, hb3⟩
  have hs10 := hb3.size
  have hall3 := hall.below hb3 (Nat.le_refl _)
  have hW10 := hW9.below hb3 (by omega)
  have hml := HML.out
  obtain ⟨q, hq⟩ : ∃ q, misL M W t = q := ⟨_, rfl⟩
  rw [hq] at h3 hml HMR HGE hgl ⊢
  clear hq HML
  go_wp2_with fail
  refine (s_greedy hW10 (by omega) hWl HSR.out hall3 (by omega) h3.rii (by omega) HNE.out (by omega) (by omega) HRow.out (fun p hp => by have := HMR.out p hp; omega) (by have := HMLN.out; omega) (by omega)).mono ?_
  rintro e w11 ⟨v4, rfl, ho4, hn4, hb4⟩
  obtain ⟨R, hR⟩ : ∃ R, grS ps (21 - W.length) W q = R := ⟨_, rfl⟩
  rw [hR] at ho4 HGE hgl
  rw [HGE.out] at HGS
  clear hR
  obtain ⟨ad4, c4, rfl, h4⟩ := ho4.some hn4.out
  have hB4 : Below w.heap.size w w11 := (Dr.below hd _).trans ((hb08.trans ((hb89.trans ((hb3.mono (by omega)).trans (hb4.mono (by omega)))).mono (by omega))).mono (by omega))
  clear hall hall3 h3 hb89 hb3 hb4 hm1 hs1 hb08 hM9 hW9 hW10
  by_cases hR20 : R.length ≤ 20
  · have HE : Hid (grL R = R ∧ grB R = true) := by unfold Hid grL grB; rw [decide_eq_true hR20]; exact ⟨rfl, rfl⟩
    have hdec : decide (20 < R.length) = false := decide_eq_false (by omega)
    go_wp2
    go_ret2
    rw [HGS.out.1, HGS.out.2]
    exact NewIIB.some HE.out rfl (by have := h4; exact ⟨this.oii.wide (by omega) (Nat.le_refl _), this.cap⟩) hB4
  · have HE : Hid (grL R = [] ∧ grB R = false) := by unfold Hid grL grB; rw [decide_eq_false hR20]; exact ⟨rfl, rfl⟩
    have hdec : decide (20 < R.length) = true := decide_eq_true (by omega)
    go_wp2
    go_ret2
    rw [HGS.out.1, HGS.out.2]
    exact NewIIB.none HE.out hB4

end Go.Proofs.Yteoiclkipfdgpaa
