/- Walks: ExplainBans of the program. -/
import Derived.Test.YtbdbfbobcdepgaaNx
import Derived.Test.YtbdbfbobcdepgaaNh
import Derived.Test.YtbdbfbobcdepgaaNy
import Derived.Test.YtbdbfbobcdepgaaZk
import Derived.Test.YtbdbfbobcdepgaaTg
import Derived.Test.YtbdbfbobcdepgaaUi
namespace Go.Proofs.Ytbdbfbobcdepgaa
open Go.RowKit

theorem wpList_app1g {wr : World} {ops : Array Oper} {rest : List Oper} {o : Oper} {a : Act} {Q : Exit → Act → World → Prop} (hgd : o.guard = none) (s t : Operand)
    (ho : o.op = .call { callee := .builtin .append, args := #[s, t], argTypes := #[22, 22] }) (B : Nat) (v : Value) (l : List Int) (hs : a.eval s = v) (hown : OwnL wr B v l) (x : Int)
    (hx : a.eval t = .slice (some ⟨wr.heap.size, 0, none⟩) 1 1) (hl : l.length ≤ 1099511627776) (hB : B ≤ wr.heap.size)
    (h : ∀ v' w', OwnL w' B v' (l ++ [x]) → GrP wr w' v v' → wpList Try.prog ops Q rest (a.put o.dst v') w') : wpList Try.prog ops Q (o :: rest) a (wr.alloc (.cells #[.int .i64 x] 3)) := by
  obtain ⟨i0, hi, hz0, hz1, hz2⟩ := info_parts infoInt
  obtain ⟨v', w', hr, g1, g2, g3, g4⟩ := run_append_own_at (P := Try.prog) (wr.alloc (.cells #[.int .i64 x] 3)) B 22 o.type 3 i0 (.int .i64 0) 1 8 undI hi hz0 hz1 hz2 rfl (by decide) v l.length (ints l) (World.ownsRow.alloc hown _) ⟨wr.heap.size, 0, none⟩ 1 1 [.int .i64 x] rfl (cell_one_new _ _ _) (by intro u hu; simp at hu; subst hu; rfl) (by unfold maxLen; omega) (by omega) (by simp; omega)
  refine Lib.wpList_append_run _ hgd _ _ _ _ ho _ _ hs hx _ _ hr (h v' w' ?_ ⟨(World.grownBy_alloc wr _ _).trans g2, ?_⟩)
  · unfold OwnL; rw [List.length_append]; simpa [ints] using g1
  · rcases g4 with g4 | g4
    · exact .inl g4
    · exact .inr ⟨_, g4, by simp, ((World.ownsRow.lt g1) _ g4).2⟩
theorem x_ReverseNil {w : World} : Calls Try.prog 111 #[.slice none 0 0] w (fun e w' => e = .returned (.tuple #[]) ∧ w' = w) := by
  go_enter Try.func111, Try.ntmps111
  go_wp2
  go_loopw [2, 3] (fun i j wr => i = .int .i64 0 ∧ j = .int .i64 (-1) ∧ wr = w) (fun _ _ _ => 0)
  case atStart => exact ⟨rfl, by go_num, rfl⟩
  case round =>
    obtain ⟨rfl, rfl, rfl⟩ := hrel
    go_wp2
    go_end0
    exact ⟨rfl, rfl⟩
theorem pk_len (s : List (List Int)) (l : List Nat) : (pk s l).length = l.length := by simp [pk]
theorem pk_erase {s : List (List Int)} {k : Nat} {up : List Nat} : (pk s (List.range (k + 1) ++ up)).eraseIdx k = pk s (List.range k ++ up) := by
  unfold pk
  rw [List.range_succ, List.append_assoc, List.map_append, List.map_append, List.eraseIdx_append_of_length_le (by simp)]
  simp
theorem pk_ok {m : List Int} {s : List (List Int)} {l : List Nat} (h : okBn m s = true) (hl : l.length ≤ 5) (hx : ∀ x ∈ l, x < s.length) : okBn m (pk s l) = true := by
  unfold okBn
  rw [Bool.and_eq_true, List.all_eq_true]
  refine ⟨fun r hr => ?_, by rw [pk_len]; exact decide_eq_true hl⟩
  unfold pk at hr
  obtain ⟨x, hxl, rfl⟩ := List.mem_map.1 hr
  have hxs := hx x hxl
  refine okBn_all h ?_
  rw [List.getD, List.getElem?_eq_getElem hxs]
  exact List.getElem_mem hxs
theorem pk_all (s : List (List Int)) : pk s (List.range s.length ++ []) = s := by
  rw [List.append_nil]
  unfold pk
  apply List.ext_getElem?
  intro i
  by_cases hi : i < s.length
  · simp [hi, List.getD]
  · rw [List.getElem?_eq_none (by simp; omega), List.getElem?_eq_none (by omega)]

set_option maxRecDepth 100000 in
set_option maxHeartbeats 8000000 in
theorem i_ExplainBans {m : List Int} {s : List (List Int)} {p : List Int} {a a1 a3 : Option Addr} {c c1 c3 lo hi lo1 hi1 lo3 hi3 : Nat} {w : World} (hm : RI w lo hi a m) (hlm : m.length ≤ 9223372036854775807) (hs : RII w lo1 hi1 a1 s) (hls : s.length ≤ 9223372036854775807) (hg : ∀ r ∈ s, r.length ≤ 9223372036854775807) (hp : RI w lo3 hi3 a3 p) (hlp : p.length ≤ 9223372036854775807) (hB : hi ≤ w.heap.size) (hB1 : hi1 ≤ w.heap.size) (hB3 : hi3 ≤ w.heap.size) :
    Calls Try.prog 38 #[.slice a m.length c, .slice a1 s.length c1, .slice a3 p.length c3] w (NewIB w (exL m s p) (exB m s p)) := by
  have HG := Lib.hid hg; clear hg
  cases hce : (okM m && okBn m s && okP m p)
  · have HCE := Lib.hid hce; clear hce
    have HN : Hid (exL m s p = [] ∧ exB m s p = false) := by have h := exB_no HCE.out; exact ⟨ex_no h, h⟩
    go_enter Try.func38, Try.ntmps38
    go_wp2_with fail
    refine (i_canExplain hm hlm hs hls HG.out hp hlp).mono ?_
    rintro e w1 ⟨rfl, d1⟩
    rw [HCE.out]
    go_wp2
    go_ret2
    exact GotNB.none HN.out (Dr.below d1 _)
  have HCE := Lib.hid hce
  simp only [Bool.and_eq_true] at hce
  have HOK := Lib.hid hce.1.1
  have HOB := Lib.hid hce.1.2
  have HOP := Lib.hid hce.2
  clear hce
  have hm5 := okM_len HOK.out
  have hsl := okBn_len HOB.out
  have HR := Lib.hid (bn_rows HOB.out)
  have HPL := Lib.hid (okW_len HOP.out)
  go_enter Try.func38, Try.ntmps38
  go_wp2_with fail
  refine (i_canExplain hm hlm hs hls HG.out hp hlp).mono ?_
  rintro e w1 ⟨rfl, d1⟩
  rw [HCE.out]
  have Z1 := Dr.le d1
  go_wp2_with fail
  refine (i_rulesOf m.length (hs.dr d1) (by omega) hsl (fun r hr => by have := HR.out r hr; omega)).mono ?_
  rintro e w2 ⟨v0, rfl, ho2, hb2⟩
  obtain ⟨ga, gc, hv0, ho2⟩ := ho2.slice
  subst hv0
  have z2 := hb2.size
  have hlt2 := ho2.lt
  have hA := heap_alloc_new w2 (.cells #[.slice a m.length c, .slice ga s.length gc] 92)
  have hbA := (Below.refl w2.heap.size w2).alloc (Nat.le_refl _) (.cells #[.slice a m.length c, .slice ga s.length gc] 92)
  have hm2 := (hm.dr d1).below hb2 (by omega)
  have hp2 := (hp.dr d1).below hb2 (by omega)
  have hbw2 := (Dr.below d1 w.heap.size).trans (hb2.mono Z1.2)
  obtain ⟨W, hW⟩ : ∃ W, w2.alloc (.cells #[.slice a m.length c, .slice ga s.length gc] 92) = W := ⟨_, rfl⟩
  have hWs : W.heap.size = w2.heap.size + 1 := by rw [← hW]; simp
  rw [hW] at hA hbA
  have HAW := Lib.hid hA
  have hm2' := Lib.hid hm2
  have hp2' := Lib.hid hp2
  have hmW := hm2.below hbA (by omega)
  have hpW := hp2.below hbA (by omega)
  have hbW := hbw2.trans (hbA.mono (by omega))
  have HS : Hid (∀ w', Below W.heap.size W w' → w'.cell? ⟨w2.heap.size, 0, none⟩ = some (.slice a m.length c) ∧ w'.cell? ⟨w2.heap.size, 1, none⟩ = some (.slice ga s.length gc)) := fun w' hb => by
    have h := (hb.block w2.heap.size (by omega)).trans HAW.out
    rw [cell_of_row _ _ 0 _ _ _ h, cell_of_row _ _ 1 _ _ _ h]; exact ⟨rfl, rfl⟩
  have HPF : Hid (∀ w', Below W.heap.size W w' → Calls Try.prog 100 #[.slice a3 p.length c3] w' (NewV w' (.agg #[.int .i64 (at5 p 0), .int .i64 (at5 p 1), .int .i64 (at5 p 2), .int .i64 (at5 p 3), .int .i64 (at5 p 4)]))) := fun w' hb => i_patternOf (hpW.below hb (by omega)) (by have := hb.size; omega) (by have := HPL.out; omega)
  have HIP : Hid (∀ w', Below W.heap.size W w' → Calls Try.prog 109 #[.agg #[.slice a m.length c, .slice ga s.length gc], .agg #[.int .i64 (at5 p 0), .int .i64 (at5 p 1), .int .i64 (at5 p 2), .int .i64 (at5 p 3), .int .i64 (at5 p 4)]] w' (NewV w' (.bool (hasP (alL m s) p)))) := fun w' hb => i_isPossible (hmW.below hb (by omega)) (by have := hb.size; omega) ho2 (hbA.trans (hb.mono (by omega))) HOK.out HOB.out HOP.out
  obtain ⟨X, hX⟩ : ∃ X, hasP (alL m s) p = X := ⟨_, rfl⟩
  have HX := Lib.hid hX
  rw [hX] at HIP
  have hWl : w2.heap.size + 1 ≤ W.heap.size ∧ W.heap.size ≤ w2.heap.size + 1 := by omega
  clear hX hm2 hp2 hA hWs
  go_wp2_with fail
  try rw [hW]
  clear hW
  refine wp_region_new (by rfl) (by kernel_rfl) ?_
  (refine wpQuiet_step (fun K hK => ?_); go_simp; refine ⟨.agg #[.slice a m.length c, .slice ga s.length gc], fun wq hq => ?_, hK _ ?_⟩; (obtain ⟨s0, s1⟩ := HS.out wq hq; simp [s0, s1, Result.andThen]); clear hK K)
  (refine wpQuiet_step (fun K hK => ?_); go_simp; first | refine hK _ ?_ | refine ⟨_, fun _ _ => rfl, hK _ ?_⟩; clear hK K)
  (refine wpQuiet_step (fun K hK => ?_); go_simp; refine ⟨.agg #[.int .i64 (at5 p 0), .int .i64 (at5 p 1), .int .i64 (at5 p 2), .int .i64 (at5 p 3), .int .i64 (at5 p 4)], fun wq hq => (HPF.out wq hq).mono ?_, hK _ ?_⟩; (rintro e wr ⟨rfl, hbr⟩; exact ⟨rfl, hq.trans (hbr.mono hq.size)⟩); clear hK K)
  (refine wpQuiet_step (fun K hK => ?_); go_simp; refine ⟨.bool X, fun wq hq => (HIP.out wq hq).mono ?_, hK _ ?_⟩; (rintro e wr ⟨rfl, hbr⟩; exact ⟨rfl, hq.trans (hbr.mono hq.size)⟩); clear hK K)
  refine wpQuiet_nil ?_
  intro w6 hb6
  have z6 := hb6.size
  have hb06 := hbW.trans (hb6.mono (by have := hbW.size; omega))
  cases X
  case true =>
    have HN : Hid (exL m s p = [] ∧ exB m s p = false) := by have h : exB m s p = false := by { rw [exB_mk HOK.out HOB.out HOP.out, HX.out]; rfl }; exact ⟨ex_no h, h⟩
    go_wp2
    go_ret2
    exact GotNB.none HN.out hb06
  have HEB : Hid (exB m s p = true) := by show _ = _; rw [exB_mk HOK.out HOB.out HOP.out, HX.out]; rfl
  have HEL : Hid (exL m s p = lN (exG (exF m s p) s.length [])) := ex_yes HEB.out
  have HX0 := Lib.hid (ExS.start (exF m s p) s.length)
  obtain ⟨f, hf⟩ : ∃ f, exF m s p = f := ⟨_, rfl⟩
  have HF := Lib.hid hf
  rw [hf] at HX0 HEL
  obtain ⟨L, hL⟩ : ∃ L, w2.heap.size = L := ⟨_, rfl⟩
  have ho6 := ho2.below ((hbA.trans (hb6.mono (by omega))).mono (Nat.le_refl _))
  have HROW := Lib.hid ((hb6.block w2.heap.size (by omega)).trans HAW.out)
  have hb26 := hbA.trans (hb6.mono (by omega))
  have HGN : Hid (∀ g, (Value.slice ga s.length gc).ownBlock = some g → g ≠ L) := fun g hg => by have := (hlt2 g hg).2; omega
  have hz6L : L + 1 ≤ w6.heap.size := by omega
  rw [hL] at HROW hb26
  have hz12 : w1.heap.size ≤ L := by omega
  have hz2L : w2.heap.size ≤ L ∧ L ≤ w2.heap.size := by omega
  have hmL := hm2'.out
  have hpL := hp2'.out
  have HLS : Hid (s = pk s (List.range s.length ++ [])) := (pk_all s).symm
  have hwn : IntKind.i64.wrap ((s.length : Int) - 1) = (s.length : Int) - 1 := by rw [IntWalk.i64_in _ (by omega)]
  have hnd0 : OwnL w6 (L + 1) (.slice none 0 0) [] := OwnL.nil _ _
  clear HS HPF HIP hb6 hmW hpW hbW hf
  rw [hL]
  go_wp2
  go_loopw [9, 10, 11] (fun v k _ wr => ∃ (K : Nat) (up : List Nat) (ls : List (List Int)) (la : Option Addr) (lc : Nat) (nd : List Int) (an : Option Addr) (cn : Nat), K ≤ s.length ∧ k = .int .i64 ((K : Int) - 1) ∧ v = .slice an nd.length cn ∧ Hid (nd = lN up.reverse) ∧ Hid (nd.length ≤ 5) ∧ Hid (nd = [] → an = none ∧ cn = 0) ∧ OwnL wr (L + 1) (.slice an nd.length cn) nd ∧ Hid (ExS f s.length K up) ∧ Hid (ls = pk s (List.range K ++ up)) ∧ OwnBn wr w1.heap.size (.slice la ls.length lc) ls ∧ Hid (∀ g, (Value.slice la ls.length lc).ownBlock = some g → g ≠ L) ∧ Hid (∀ g, (Value.slice la ls.length lc).ownBlock = some g → (Value.slice an nd.length cn).ownBlock ≠ some g) ∧ Hid (wr.heap[L]? = some (.cells #[.slice a m.length c, .slice la ls.length lc] 92 (0, 0))) ∧ Below L w2 wr ∧ L + 1 ≤ wr.heap.size) (fun _ k _ _ => (intOf k + 1).toNat)
  case atStart => exact ⟨s.length, [], s, ga, gc, [], none, 0, Nat.le_refl _, rfl, rfl, rfl, by show _ ≤ _; simp, fun _ => ⟨rfl, rfl⟩, hnd0, HX0, HLS, ho6, HGN, (by show ∀ g, _; intro g _ h; cases h), HROW, hb26, hz6L⟩
  case round =>
    clear ho6 HGN HROW hb26 hz6L HLS hnd0 HX0
    obtain ⟨K, up, ls, la, lc, nd, an, cn, hK, rfl, rfl, hnd, hnl, hnn, hon, hX, hls, hol, hgn, hdis, HROW, hbw, hsz⟩ := hrel
    have hc0 : wr.cell? ⟨L, 0, none⟩ = some (.slice a m.length c) := by rw [cell_of_row _ _ 0 _ _ _ HROW.out]; rfl
    have hc1 : wr.cell? ⟨L, 1, none⟩ = some (.slice la ls.length lc) := by rw [cell_of_row _ _ 1 _ _ _ HROW.out]; rfl
    have hf0 := frozen5 HROW.out 0
    have hf1 := frozen5 HROW.out 1
    by_cases hK0 : K = 0
    · subst hK0
      have hd : decide ((0 : Int) ≤ ((0 : Nat) : Int) - 1) = false := rfl
      have HUP : Hid (lN up = exL m s p) := by show _ = _; rw [HEL.out, ← hX.out.fin]
      have hzw : w.heap.size ≤ L := by have := hbw2.size; omega
      have hBw := hbw2.trans (hbw.mono hzw)
      have hz2w := hbw.size
      by_cases hn0 : nd = []
      · obtain ⟨rfl, rfl⟩ := hnn.out hn0
        have HE0 : Hid (exL m s p = []) := by
          show _ = _
          rw [← HUP.out]
          have h := hnd.out
          rw [hn0] at h
          have h2 : (lN up.reverse).length = 0 := by rw [← h]; rfl
          rw [lN_len, List.length_reverse] at h2
          rw [List.eq_nil_of_length_eq_zero h2]; rfl
        subst hn0
        go_wp2_with fail
        refine x_ReverseNil.mono ?_
        rintro e w9 ⟨rfl, rfl⟩
        go_wp2
        go_ret2
        rw [HE0.out]
        exact ⟨_, _, by rw [HEB.out]; rfl, fun k hk => absurd hk (by simp), hBw⟩
      · obtain ⟨a5, c5, e5, ho5⟩ := hon.slice
        obtain ⟨rfl, rfl⟩ : an = a5 ∧ cn = c5 := by simpa using e5
        obtain ⟨b5, o5, e6, _⟩ := ho5.oi 0 (List.length_pos_iff.2 hn0)
        subst e6
        have HRV : Hid (nd.reverse = exL m s p) := by show _ = _; rw [hnd.out, ← HUP.out]; simp [lN]
        have HRL : Hid (nd.length = (exL m s p).length) := by show _ = _; rw [← HRV.out, List.length_reverse]
        clear e5
        go_wp2_with fail
        refine (x_ReverseI ho5.oi (by have := hnl.out; omega) (Nat.le_refl _)).mono ?_
        rintro e w9 ⟨rfl, h9, hu9, hs9⟩
        rw [HRV.out] at h9
        have hB9 := hBw.trans ((Upd.below hu9).mono (by omega))
        have hO9 := h9.wide (show w.heap.size ≤ L + 1 by omega) (show wr.heap.size ≤ w9.heap.size by omega)
        go_wp2
        go_ret2
        rw [HRL.out]
        exact ⟨_, _, by rw [HEB.out]; rfl, hO9, hB9⟩
    obtain ⟨k, rfl⟩ : ∃ k, K = k + 1 := ⟨K - 1, by omega⟩
    have hke : (((k + 1 : Nat) : Int) - 1) = (k : Int) := by omega
    rw [hke]
    have hd : decide ((0 : Int) ≤ (k : Int)) = true := decide_eq_true (by omega)
    have HLL : Hid (k < ls.length) := by show _ < _; rw [hls.out, pk_len]; simp; omega
    have hls5 : Hid (ls.length ≤ 5) := by show _ ≤ _; rw [hls.out, pk_len]; have := hX.out.len; simp; omega
    obtain ⟨g, gc2, e2, hcap, hR⟩ := hol.rd (by intro e; have h := HLL.out; rw [e] at h; simp at h)
    obtain ⟨rfl, rfl⟩ : la = some ⟨g, 0, none⟩ ∧ lc = gc2 := by simpa using e2
    clear e2 hke
    go_wp2_with fail
    refine (i_withoutBn hR (Nat.le_refl _) (by have := hls5.out; omega) hcap HLL.out).mono ?_
    rintro e v1 ⟨vf, rfl, hof, hbf⟩
    obtain ⟨le, hle⟩ : ∃ le, ls.eraseIdx k = le := ⟨_, rfl⟩
    have HLE : Hid (le = pk s (List.range k ++ up)) := by show _ = _; rw [← hle, hls.out]; exact pk_erase
    rw [hle] at hof
    obtain ⟨gf, gfc, e, hof⟩ := hof.slice
    subst e
    clear hle
    have hz1 := hbf.size
    have HEE : Hid (exF m s p (List.range k ++ up) = hasP (alL m le) p) := by show _ = _; rw [HLE.out]; rfl
    have HOBL : Hid (okBn m le = true) := by
      show _ = _
      rw [HLE.out]
      have hl := hX.out.len
      refine pk_ok HOB.out (by simp; omega) fun x hx => ?_
      rcases List.mem_append.1 hx with hx | hx
      · have := List.mem_range.1 hx; omega
      · exact (hX.out.up x hx).2
    have HVA := Lib.hid (heap_alloc_new v1 (.cells #[.slice a m.length c, .slice gf le.length gfc] 92))
    have hbV := (Below.refl v1.heap.size v1).alloc (Nat.le_refl _) (.cells #[.slice a m.length c, .slice gf le.length gfc] 92)
    obtain ⟨V, hV⟩ : ∃ V, v1.alloc (.cells #[.slice a m.length c, .slice gf le.length gfc] 92) = V := ⟨_, rfl⟩
    have hVs : V.heap.size = v1.heap.size + 1 := by rw [← hV]; simp
    rw [hV] at HVA hbV
    have hVl : v1.heap.size + 1 ≤ V.heap.size ∧ V.heap.size ≤ v1.heap.size + 1 := by omega
    have hb2V := hbw.trans ((hbf.mono (by omega)).trans (hbV.mono (by omega)))
    have hrV := hbf.trans (hbV.mono hz1)
    have HS2 : Hid (∀ w', Below V.heap.size V w' → w'.cell? ⟨v1.heap.size, 0, none⟩ = some (.slice a m.length c) ∧ w'.cell? ⟨v1.heap.size, 1, none⟩ = some (.slice gf le.length gfc)) := fun w' hb => by
      have h := (hb.block v1.heap.size (by omega)).trans HVA.out
      rw [cell_of_row _ _ 0 _ _ _ h, cell_of_row _ _ 1 _ _ _ h]; exact ⟨rfl, rfl⟩
    have hmV := hmL.below hb2V (by omega)
    have hpV := hpL.below hb2V (by omega)
    have HPF : Hid (∀ w', Below V.heap.size V w' → Calls Try.prog 100 #[.slice a3 p.length c3] w' (NewV w' (.agg #[.int .i64 (at5 p 0), .int .i64 (at5 p 1), .int .i64 (at5 p 2), .int .i64 (at5 p 3), .int .i64 (at5 p 4)]))) := fun w' hb => i_patternOf (hpV.below hb (by omega)) (by have := hb.size; omega) (by have := HPL.out; omega)
    have HIP : Hid (∀ w', Below V.heap.size V w' → Calls Try.prog 109 #[.agg #[.slice a m.length c, .slice gf le.length gfc], .agg #[.int .i64 (at5 p 0), .int .i64 (at5 p 1), .int .i64 (at5 p 2), .int .i64 (at5 p 3), .int .i64 (at5 p 4)]] w' (NewV w' (.bool (hasP (alL m le) p)))) := fun w' hb => i_isPossible (hmV.below hb (by omega)) (by have := hb.size; omega) hof (hbV.trans (hb.mono (by omega))) HOK.out HOBL.out HOP.out
    obtain ⟨X, hX2⟩ : ∃ X, hasP (alL m le) p = X := ⟨_, rfl⟩
    have HFX : Hid (f (List.range k ++ up) = X) := by show _ = _; rw [← HF.out, HEE.out, hX2]
    rw [hX2] at HIP
    have hlV : L < v1.heap.size := by omega
    clear hX2 hVs hmV hpV
    go_wp2_with fail
    try rw [hV]
    clear hV
    refine wp_region_new (by rfl) (by kernel_rfl) ?_
    (refine wpQuiet_step (fun K hK => ?_); go_simp; refine ⟨.agg #[.slice a m.length c, .slice gf le.length gfc], fun wq hq => ?_, hK _ ?_⟩; (obtain ⟨s0, s1⟩ := HS2.out wq hq; simp [s0, s1, Result.andThen]); clear hK K)
    (refine wpQuiet_step (fun K hK => ?_); go_simp; first | refine hK _ ?_ | refine ⟨_, fun _ _ => rfl, hK _ ?_⟩; clear hK K)
    (refine wpQuiet_step (fun K hK => ?_); go_simp; refine ⟨.agg #[.int .i64 (at5 p 0), .int .i64 (at5 p 1), .int .i64 (at5 p 2), .int .i64 (at5 p 3), .int .i64 (at5 p 4)], fun wq hq => (HPF.out wq hq).mono ?_, hK _ ?_⟩; (rintro e wr ⟨rfl, hbr⟩; exact ⟨rfl, hq.trans (hbr.mono hq.size)⟩); clear hK K)
    (refine wpQuiet_step (fun K hK => ?_); go_simp; refine ⟨.bool X, fun wq hq => (HIP.out wq hq).mono ?_, hK _ ?_⟩; (rintro e wr ⟨rfl, hbr⟩; exact ⟨rfl, hq.trans (hbr.mono hq.size)⟩); clear hK K)
    refine wpQuiet_nil ?_
    intro w7 hb7
    have z7 := hb7.size
    have hr7 := hrV.trans (hb7.mono (by omega))
    have hwk : IntKind.i64.wrap ((k : Int) - 1) = (k : Int) - 1 := by rw [IntWalk.i64_in _ (by omega)]
    have hcl7 := HS2.out w7 hb7
    have HROW7 := Lib.hid ((hr7.block L (by omega)).trans HROW.out)
    have hf0' := frozen5 HROW7.out 0
    have hf1' := frozen5 HROW7.out 1
    have hcA : w7.cell? ⟨L, 0, none⟩ = some (.slice a m.length c) := by rw [cell_of_row _ _ 0 _ _ _ HROW7.out]; rfl
    have hcB : w7.cell? ⟨L, 1, none⟩ = some (.slice (some ⟨g, 0, none⟩) ls.length lc) := by rw [cell_of_row _ _ 1 _ _ _ HROW7.out]; rfl
    have hondL := ownL_lt hon
    have holt := hol.lt
    have hon7 := hon.below hr7
    have hb27 := hbw.trans (hr7.mono (by omega))
    clear HS2 HPF HIP hrV hb2V hc0 hc1 hf0 hf1 hon hbw
    cases X
    · have HX3 := Lib.hid (hX.out.drop HFX.out)
      have hof7 : OwnBn w7 wr.heap.size (.slice gf le.length gfc) le := hof.below (hbV.trans (hb7.mono (by omega)))
      have hofl := hof.lt
      have hz7L : L + 1 ≤ w7.heap.size := by omega
      obtain ⟨q0, q1⟩ := hcl7
      clear hol
      go_wp2
      have HR8 : Hid (((w7.setCell ⟨L, 0, none⟩ (.slice a m.length c)).setCell ⟨L, 1, none⟩ (.slice gf le.length gfc)).heap[L]? = some (.cells #[.slice a m.length c, .slice gf le.length gfc] 92 (0, 0))) := by
        show _ = _
        simp only [World.setCell, Array.getElem?_modify, if_true]
        rw [HROW7.out]; rfl
      have hst : ∀ j, j ≠ L → ((w7.setCell ⟨L, 0, none⟩ (.slice a m.length c)).setCell ⟨L, 1, none⟩ (.slice gf le.length gfc)).heap[j]? = w7.heap[j]? := fun j hj => by
        rw [Below.heap_setCell _ _ _ _ (by simpa using fun e => hj e), Below.heap_setCell _ _ _ _ (by simpa using fun e => hj e)]
      go_roundw
      case rel => exact ⟨k, up, le, gf, gfc, nd, an, cn, by omega, by go_num, rfl, hnd, hnl, hnn, ownL_kept hon7 (fun j _ hj => hst j (by have := (hondL j hj).1; omega)), HX3, HLE, (hof7.kept fun j hj hjo => hst j (by have := (hof7.lt j hjo).1; omega)).wide (by omega), fun g hg => by have := (hofl g hg).1; omega, fun g hg h => by { have h1 := (hofl g hg).1; have h2 := (hondL g h).2; omega }, HR8, ⟨hb27.os, hb27.tape, hb27.output, by simp [World.setCell]; exact hb27.size, fun j hj => (hst j (by omega)).trans (hb27.block j hj)⟩, by simp [World.setCell]; omega⟩
      case measure => simp [intOf]
    · have HX3 := Lib.hid (hX.out.keep HFX.out)
      have hol7 := hol.below hr7
      have HLS3 : Hid (ls = pk s (List.range k ++ (k :: up))) := by show _ = _; rw [hls.out, out_keep]
      have HND3 : Hid (nd ++ [(k : Int)] = lN (k :: up).reverse) := by show _ = _; rw [hnd.out, lN_snoc, List.reverse_cons]
      have HNL3 : Hid ((nd ++ [(k : Int)]).length ≤ 5) := by show _ ≤ _; rw [HND3.out, lN_len, List.length_reverse]; have := HX3.out.len; omega
      have hz7L : L + 1 ≤ w7.heap.size := by omega
      have hol7l := hol7.lt
      clear hol hof
      go_wp2_with (first
        | (at_builtin; refine wpList_app1g rfl _ _ rfl (L + 1) _ nd rfl hon7 (k : Int) rfl (by have := hnl.out; omega) hz7L ?_; intro v8 w8 ho8 hg8)
        | go_in)
      obtain ⟨a8, c8, rfl, _⟩ := ho8.slice
      have hz8 := hg8.gr.size
      have HDIS : Hid (∀ g', (Value.slice (some ⟨g, 0, none⟩) ls.length lc).ownBlock = some g' → (Value.slice a8 (nd ++ [(k : Int)]).length c8).ownBlock ≠ some g') := by
        show ∀ g', _ → _
        intro g' hg' h
        rcases hg8.at_ with h1 | ⟨x, h1, h2, _⟩
        · exact hdis.out g' hg' (h1.symm.trans h)
        · have e := Option.some.inj (h1.symm.trans h)
          have := (hol7l g' hg').2
          omega
      have hb8 : Below (L + 1) w7 w8 := hg8.below (fun g hg => (hondL g hg).1) hz7L
      go_roundw
      case rel => exact ⟨k, k :: up, ls, some ⟨g, 0, none⟩, lc, nd ++ [(k : Int)], a8, c8, by omega, by go_num, rfl, HND3, HNL3, by show _ → _; simp, ho8, HX3, HLS3, hol7.kept (fun j hj hjo => hg8.gr.block j hj (fun e => hdis.out j hjo e.symm)), hgn, HDIS, Lib.hid ((hb8.block L (by omega)).trans HROW7.out), hb27.trans (hb8.mono (by omega)), by omega⟩
      case measure => simp [intOf]

end Go.Proofs.Ytbdbfbobcdepgaa
