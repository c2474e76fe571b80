/- Walks: a test with each level for one more factor, as an iterator. -/
import Derived.Test.YteoiclkipfdgpaaZg
import Derived.Test.YteoiclkipfdgpaaTc
import Derived.Test.YteoiclkipfdgpaaYl
import Derived.Test.YteoiclkipfdgpaaWf
import Derived.Laws.IdiomCopy
import Derived.Test.YteoiclkipfdgpaaWv
import Derived.Test.YteoiclkipfdgpaaYa
import Derived.Test.YteoiclkipfdgpaaWu
import Derived.Test.YteoiclkipfdgpaaVb
import Derived.Deep.MidRow
namespace Go.Proofs.Yteoiclkipfdgpaa
open Go.RowKit Go.Shelf

attribute [local go_sem] Oper.semAt_some

theorem i_withEachLevel {T : Nat → Int} {f n : Int} {w : World} :
    Calls Try.prog 35 #[.agg #[.int .i64 (T 0), .int .i64 (T 1), .int .i64 (T 2), .int .i64 (T 3), .int .i64 (T 4)], .int .i64 f, .int .i64 n] w (fun e w' => e = .returned (.func (.func 63) #[] #[.pointer (some ⟨w.heap.size + 2, 0, none⟩), .pointer (some ⟨w.heap.size, 0, none⟩), .pointer (some ⟨w.heap.size + 1, 0, none⟩)]) ∧ w' = ((w.alloc (.cells #[.int .i64 (T 0), .int .i64 (T 1), .int .i64 (T 2), .int .i64 (T 3), .int .i64 (T 4)] 50)).alloc (.cells #[.int .i64 f] 3)).alloc (.cells #[.int .i64 n] 3)) := by
  go_enter Try.func35, Try.ntmps35
  go_wp2
  go_ret
  exact ⟨by simp, rfl⟩

/-- the array of a test with a level put for the factor f -/
theorem wd_cel {r : List Int} {f k : Nat} {T : Nat → Int} (hr : r.length = f) (_hf : f < 5) (hT : ∀ i, i ≠ f → T i = at5 r i) : putT T f (k : Int) = at5 (r ++ [(k : Int)]) := by
  funext i
  unfold putT
  by_cases h : i = f
  · subst h; rw [if_pos rfl]; exact (at5_of (by rw [List.getElem?_append_right (by omega)]; simp [hr])).symm
  · rw [if_neg h, hT i h]
    unfold at5 List.getD
    by_cases hi : i < r.length
    · rw [List.getElem?_append_left hi]
    · rw [List.getElem?_eq_none (by omega), List.getElem?_eq_none (by simp; omega)]

set_option maxRecDepth 100000 in
set_option maxHeartbeats 2000000 in
theorem withEach1_seq {r : List Int} {f n bt bf bl n₀ : Nat} {w : World} (hr : r.length = f) (hf : f < 5) (hn : n ≤ 3)
    (ht : w.heap[bt]? = some (.cells #[.int .i64 (at5 r 0), .int .i64 (at5 r 1), .int .i64 (at5 r 2), .int .i64 (at5 r 3), .int .i64 (at5 r 4)] 50 (0, 0))) (hbf : w.heap[bf]? = some (.cells #[.int .i64 f] 3 (0, 0))) (hbl : w.heap[bl]? = some (.cells #[.int .i64 n] 3 (0, 0)))
    (h1 : bt < n₀) (h2 : bf < n₀) (h3 : bl < n₀) (d1 : bf ≠ bt) (_d2 : bl ≠ bt) (_hn₀ : n₀ ≤ w.heap.size) :
    SeqO Try.prog 63 #[.pointer (some ⟨bl, 0, none⟩), .pointer (some ⟨bt, 0, none⟩), .pointer (some ⟨bf, 0, none⟩)] (fun x : List Int => #[.agg #[.int .i64 (at5 x 0), .int .i64 (at5 x 1), .int .i64 (at5 x 2), .int .i64 (at5 x 3), .int .i64 (at5 x 4)]]) (wdC n r) n₀ bt (bt + 1) 0 w := by
  intro n' l J Jx W hW hJ hY h0
  have hws := hW.size
  have hcl : W.cell? ⟨bl, 0, none⟩ = some (.int .i64 n) := by rw [cell_of_row _ _ 0 _ _ _ ((hW.block bl h3).trans hbl)]; rfl
  have HT0 := Lib.hid ((hW.block bt h1).trans ht)
  have HF0 := Lib.hid ((hW.block bf h2).trans hbf)
  have HXS : Hid (∀ k, k < n → (wdC n r).take k ++ [r ++ [(k : Int)]] = (wdC n r).take (k + 1)) := fun k hk => by
    rw [take_snoc (m := wdC n r) (k := k) (x := r ++ [(k : Int)]) (by simp [wdC, hk])]
  refine callsIn_of_wp Try.func63 rfl trivial ?_ rfl
  simp only [Try.ntmps63, List.size_toArray, List.length_cons, List.length_nil, Nat.reduceAdd, Nat.reduceSub, Array.replicate_succ, Array.replicate_zero, List.push_toArray, List.append_toArray, List.nil_append, List.cons_append]
  gi_wp2
  gi_loopw [5, 7] (fun _ kv wr => ∃ (k : Nat) (T : Nat → Int), k ≤ n ∧ kv = .int .i64 k ∧ J ((wdC n r).take k) wr ∧ wr.heap[bt]? = some (.cells #[.int .i64 (T 0), .int .i64 (T 1), .int .i64 (T 2), .int .i64 (T 3), .int .i64 (T 4)] 50 (0, 0)) ∧ Hid (∀ i, i ≠ f → T i = at5 r i) ∧ wr.heap[bf]? = some (.cells #[.int .i64 f] 3 (0, 0)) ∧ W.heap.size ≤ wr.heap.size) (fun _ kv _ => n - (intOf kv).toNat)
  case atStart => exact ⟨0, at5 r, Nat.zero_le _, rfl, h0, HT0.out, fun _ _ => rfl, HF0.out, Nat.le_refl _⟩
  case round =>
    obtain ⟨k, T, hk, rfl, hj, hcT, HTT, hcF, hsz⟩ := hrel
    by_cases hlt : k < n
    · have hcf : wr.cell? ⟨bf, 0, none⟩ = some (.int .i64 f) := by rw [cell_of_row _ _ 0 _ _ _ hcF]; rfl
      have hfz := frozen5 hcT f
      have hidx := idxAt5 bt hf
      have hcc := cell5 hcT hf
      have hset := setQ hcT hf (k : Int)
      have hpt := wd_cel (k := k) hr hf HTT.out
      rw [hpt] at hset
      obtain ⟨t0, t1, t2, t3, t4⟩ := cells5' hset
      have hjn := hJ _ _ _ hj ((Up2.refl bt (bt + 1) W.heap.size (W.heap.size + 0) wr).set (p := ⟨bt, f, none⟩) (.int .i64 (k : Int)) (.inl ⟨Nat.le_refl _, Nat.lt_succ_self _⟩))
      obtain ⟨fn, tmps, assign, body, hy, hR⟩ := hY ((wdC n r).take k) (r ++ [(k : Int)]) (wr.setCell ⟨bt, f, none⟩ (.int .i64 (k : Int))) hjn (by rw [HXS.out k hlt]; exact List.take_prefix _ _) (by simp [World.setCell]; omega)
      rw [HXS.out k hlt] at hR
      try dsimp only at hy
      have hcF1 : (wr.setCell ⟨bt, f, none⟩ (.int .i64 (k : Int))).heap[bf]? = some (.cells #[.int .i64 f] 3 (0, 0)) := (Below.heap_setCell _ _ _ _ (by show bf ≠ bt; exact d1)).trans hcF
      have hszS : wr.heap.size ≤ (wr.setCell ⟨bt, f, none⟩ (.int .i64 (k : Int))).heap.size := by simp [World.setCell]
      have HSET := Lib.hid hset; have HCF1 := Lib.hid hcF1; have HPT := Lib.hid hpt
      clear hset hcF1 hpt hj hjn hcT hcF
      gi_wp2
      refine hR.mono ?_
      rintro e W3 (⟨rfl, hj3, hk3, hb3⟩ | ⟨rfl, hx3⟩)
      · have hcT3 := (hb3.block bt h1).trans HSET.out
        have hcF3 := (hb3.block bf h2).trans HCF1.out
        have hz3 := hb3.size
        have HT3 : Hid (∀ i, i ≠ f → at5 (r ++ [(k : Int)]) i = at5 r i) := fun i hi => by
          rw [← HPT.out]; unfold putT; rw [if_neg hi]; exact HTT.out i hi
        clear hR hy t0 t1 t2 t3 t4 hcc hfz hidx hcf hb3 hk3
        gi_wp2
        go_roundw
        case rel => exact ⟨k + 1, _, by omega, by go_num, hj3, hcT3, HT3, hcF3, by omega⟩
        case measure => simp [intOf]; omega
      · gi_wp2
        refine bodyPost_ret (results_none rfl _ _ _) rfl ?_
        exact ⟨⟨_, rfl⟩, .inr ⟨_, List.take_prefix _ _, hx3⟩⟩
    · have hlw : (wdC n r).length ≤ k := by rw [wdC_len]; omega
      rw [List.take_of_length_le hlw] at hj
      have hkn : k = n := by omega
      subst hkn
      gi_wp2
      go_end0
      exact ⟨⟨_, rfl⟩, .inl hj⟩

/- Walks: a list and one number more, put together (slices.Concat); the closure of AddFactor. -/
open Go.RowKit

theorem run_growO {n : Nat} (h0 : 0 < n) (hn : n ≤ 2097152) (ty : TypeId) (w : World) : ∃ (G : Nat) (cs : Array Value), n ≤ G ∧ G ≤ maxLen ∧ cs.size = G ∧ (Builtin.append_ #[22, 3] ty #[.slice none 0 0, .int .i64 (n : Int)]).run Try.prog w = .ok (.slice (some ⟨w.heap.size, 0, none⟩) n G) (w.drew.alloc (.cells cs 3)) := by
  obtain ⟨i0, hi, hz0, hz1, hz2⟩ := info_parts infoInt
  have h := Lib.run_append_grow_zeros (P := Try.prog) w 22 3 ty 3 i0 (.int .i64 0) .i64 .i64 undI undInt hi hz0 none 0 0 [] (run_firstCells_none _ _ _ _ _) n h0 (by omega) (by omega) (by omega) (by rw [hz2]; omega) (by rw [hz2]; exact growslice_fits (by omega) (by omega))
  rw [Nat.zero_add] at h
  have hge := grownCap_ge w n 0 3
  refine ⟨_, _, hge, grownCap_le_maxLen w n 0 _ (by unfold maxLen; omega), ?_, h⟩
  simp [Builtin.zeroCells, Value.cells]
  omega

set_option maxRecDepth 100000 in
set_option maxHeartbeats 2000000 in
theorem x_GrowO {n : Nat} {w : World} (hn : n ≤ 2097152) :
    Calls Try.prog 58 #[.slice none 0 0, .int .i64 (n : Int)] w (fun e w' => ∃ a c, e = .returned (.slice a 0 c) ∧ OwnL w' w.heap.size (.slice a 0 c) [] ∧ Below w.heap.size w w') := by
  by_cases h0 : n = 0
  · subst h0
    go_enter Try.func58, Try.ntmps58
    go_wp2
    go_ret
    exact ⟨none, 0, rfl, OwnL.nil _ _, Below.refl _ _⟩
  have hpos : 0 < (n : Int) := by omega
  obtain ⟨G, cs, hG, hG2, hcs, hrz⟩ := run_growO (by omega) hn 22 w
  have hG3 : G ≤ 9223372036854775807 := by unfold maxLen at hG2; omega
  have HO : Hid (OwnL (w.drew.alloc (.cells cs 3)) w.heap.size (.slice (some ⟨w.heap.size, 0, none⟩) 0 G) []) :=
    World.ownsRow_made w.drew cs G (Nat.le_refl w.heap.size) hG2 (by rw [hcs, Nat.mul_one])
  have HB : Hid (Below w.heap.size w (w.drew.alloc (.cells cs 3))) := ((Below.refl w.heap.size w).drew).alloc (Nat.le_refl w.heap.size) _
  clear hcs hG2
  go_enter Try.func58, Try.ntmps58
  go_wp2_with (at_builtin; refine Lib.wpList_append_run _ rfl _ _ _ _ rfl _ _ rfl rfl _ _ hrz ?_)
  go_ret
  exact ⟨_, _, rfl, HO.out, HB.out⟩

/-- append of nothing from the nil slice -/
theorem run_app_noneO {w : World} (ty : TypeId) (B : Nat) (v : Value) (l : List Int) (c : Nat) (hown : OwnL w B v l) : (Builtin.append_ #[22, 22] ty #[v, .slice none 0 c]).run Try.prog w = .ok v w := by
  obtain ⟨i0, hi, hz0, hz1, hz2⟩ := info_parts infoInt
  rcases hown.2 with ⟨rfl, h0⟩ | ⟨g, cap, cur, rfl, hb, hg, hn, hm, hs, ht⟩
  · simp [Builtin.append_, run_underlying undI, sizeOf, typeInfo, hi, Builtin.lenOf, Builtin.firstCells]
  · simp [Builtin.append_, run_underlying undI, sizeOf, typeInfo, hi, Builtin.lenOf, Builtin.firstCells, storeCells, Result.andThen, hn]
/-- append of a list, wherever it lies -/
theorem wpList_appO {wr : World} {ops : Array Oper} {rest : List Oper} {o : Oper} {a : Act} {Q : Exit → Act → World → Prop} (hgd : o.guard = none) (s t : Operand)
    (ho : o.op = .call { callee := .builtin .append, args := #[s, t], argTypes := #[22, 22] }) (B : Nat) (v : Value) (l : List Int) (hs : a.eval s = v) (hown : OwnL wr B v l) (k : List Int) (lo hi c : Nat) (a' : Option Addr)
    (hx : a.eval t = .slice a' k.length c) (hk : RI wr lo hi a' k) (hl : l.length ≤ 1099511627776) (hkl : k.length ≤ 1099511627776) (hB : B ≤ wr.heap.size)
    (h : ∀ v' w', OwnL w' B v' (l ++ k) → Below B wr w' → wpList Try.prog ops Q rest (a.put o.dst v') w') : wpList Try.prog ops Q (o :: rest) a wr := by
  cases a' with
  | some ad => exact wpList_appS hgd s t ho B v l hs hown k lo hi c ad hx hk hl hkl hB h
  | none =>
    have hk0 : k = [] := by
      cases k with
      | nil => rfl
      | cons x k => obtain ⟨b, o, e, _⟩ := hk 0 (by simp); cases e
    subst hk0
    have hr := run_app_noneO o.type B v l c hown
    refine Lib.wpList_append_run _ hgd s t 22 22 ho v (.slice none 0 c) hs hx v wr hr (h v wr (by simpa using hown) (Below.refl _ _))

set_option maxRecDepth 100000 in
set_option maxHeartbeats 4000000 in
theorem x_ConcatO {b n1 n2 c1 c2 lo hi : Nat} {ad1 : Option Addr} {ad2 : Addr} {mm1 mm2 : List Int} {w : World} (e1 : w.cell? ⟨b, 0, none⟩ = some (.slice ad1 n1 c1)) (e2 : w.cell? ⟨b, 1, none⟩ = some (.slice (some ad2) n2 c2)) (hb : b < w.heap.size) (hn1 : n1 = mm1.length) (hn2 : n2 = mm2.length)
    (h1 : RI w lo hi ad1 mm1) (h2 : RI w lo hi (some ad2) mm2) (hhi : hi ≤ w.heap.size) (hl1 : n1 ≤ 1048576) (hl2 : n2 ≤ 1048576) :
    Calls Try.prog 27 #[.slice (some ⟨b, 0, none⟩) 2 2] w (NewI w (mm1 ++ mm2)) := by
  subst hn1 hn2
  have hi0 : ∀ wx : World, (Instr.indexAt 23 (.slice (some ⟨b, 0, none⟩) 2 2) (.int .i64 0)).run Try.prog wx = .ok (.pointer (some ⟨b, 0, none⟩)) wx := fun wx => idxII (k := 0) rfl (by omega) 2 wx
  have hi1 : ∀ wx : World, (Instr.indexAt 23 (.slice (some ⟨b, 0, none⟩) 2 2) (.int .i64 1)).run Try.prog wx = .ok (.pointer (some ⟨b, 1, none⟩)) wx := fun wx => idxII (k := 1) rfl (by omega) 2 wx
  go_enter Try.func27, Try.ntmps27
  go_wp2
  go_loop [3, 11] (fun v i => (i = .int .i64 0 ∧ v = .int .i64 0) ∨ (i = .int .i64 1 ∧ v = .int .i64 (mm1.length : Int)) ∨ (i = .int .i64 2 ∧ v = .int .i64 ((mm1.length + mm2.length : Nat) : Int))) (fun _ i => 2 - (intOf i).toNat)
  case atStart => exact .inl ⟨rfl, rfl⟩
  case round =>
    rcases hrel with ⟨rfl, rfl⟩ | ⟨rfl, rfl⟩ | ⟨rfl, rfl⟩
    · go_wp2
      go_round
      case rel => exact .inr (.inl ⟨rfl, rfl⟩)
      case measure => simp [intOf]
    · go_wp2
      go_round
      case rel => exact .inr (.inr ⟨rfl, by go_num⟩)
      case measure => simp [intOf]
    · obtain ⟨N, hN⟩ : ∃ N, mm1.length + mm2.length = N := ⟨_, rfl⟩
      have hNl : N ≤ 2097152 := by omega
      rw [hN]
      clear hN
      go_wp2_with fail
      refine (x_GrowO hNl).mono ?_
      rintro e w1 ⟨a1, c1', rfl, hst, hb1⟩
      have hs1 := hb1.size
      have f1 := h1.below hb1 hhi
      have f2 := h2.below hb1 hhi
      have g1 := (hb1.cell (p := ⟨b, 0, none⟩) hb).trans e1
      have g2 := (hb1.cell (p := ⟨b, 1, none⟩) hb).trans e2
      clear e1 e2 h1 h2
      go_wp2
      go_loopw [6, 27] (fun v i wr => OwnL wr w.heap.size v (prtI mm1 mm2 (intOf i).toNat) ∧ Below w.heap.size w wr ∧ RI wr lo hi ad1 mm1 ∧ RI wr lo hi (some ad2) mm2 ∧ wr.cell? ⟨b, 0, none⟩ = some (.slice ad1 mm1.length c1) ∧ wr.cell? ⟨b, 1, none⟩ = some (.slice (some ad2) mm2.length c2) ∧ (i = .int .i64 0 ∨ i = .int .i64 1 ∨ i = .int .i64 2)) (fun _ i _ => 2 - (intOf i).toNat)
      case atStart => exact ⟨by simpa [prtI, intOf] using hst, hb1, f1, f2, g1, g2, .inl rfl⟩
      case round =>
        clear hst f1 f2 g1 g2
        obtain ⟨hown, hK, f1, f2, g1, g2, hi'⟩ := hrel
        have hsz := hK.size
        rcases hi' with rfl | rfl | rfl
        · have hown0 : OwnL wr w.heap.size _ [] := hown
          have HP : Hid (prtI mm1 mm2 1 = mm1) := by simp [Hid, prtI]
          clear hown
          go_wp2_with (first
            | (at_builtin; refine wpList_appO rfl _ _ rfl w.heap.size _ [] rfl hown0 mm1 lo hi c1 ad1 rfl f1 (by simp) (by omega) (by omega) ?_; intro v2 w2 hown2 hk2)
            | go_in)
          have HO : Hid (OwnL w2 w.heap.size v2 (prtI mm1 mm2 1)) := by show OwnL _ _ _ _; rw [HP.out]; exact hown2
          have hK2 := hK.trans hk2
          have f1' := f1.below hk2 hhi
          have f2' := f2.below hk2 hhi
          have g1' := (hk2.cell (p := ⟨b, 0, none⟩) hb).trans g1
          have g2' := (hk2.cell (p := ⟨b, 1, none⟩) hb).trans g2
          clear hown2 hk2 hK hown0
          go_roundw
          case rel => exact ⟨HO.out, hK2, f1', f2', g1', g2', .inr (.inl rfl)⟩
          case measure => simp [intOf]
        · have hown0 : OwnL wr w.heap.size _ mm1 := hown
          have HP : Hid (prtI mm1 mm2 2 = mm1 ++ mm2) := by simp [Hid, prtI]
          clear hown
          go_wp2_with (first
            | (at_builtin; refine wpList_appS rfl _ _ rfl w.heap.size _ mm1 rfl hown0 mm2 lo hi c2 ad2 rfl f2 (by omega) (by omega) (by omega) ?_; intro v2 w2 hown2 hk2)
            | go_in)
          have HO : Hid (OwnL w2 w.heap.size v2 (prtI mm1 mm2 2)) := by show OwnL _ _ _ _; rw [HP.out]; exact hown2
          have hK2 := hK.trans hk2
          have f1' := f1.below hk2 hhi
          have f2' := f2.below hk2 hhi
          have g1' := (hk2.cell (p := ⟨b, 0, none⟩) hb).trans g1
          have g2' := (hk2.cell (p := ⟨b, 1, none⟩) hb).trans g2
          clear hown2 hk2 hK hown0
          go_roundw
          case rel => exact ⟨HO.out, hK2, f1', f2', g1', g2', .inr (.inr rfl)⟩
          case measure => simp [intOf]
        · have hown0 : OwnL wr w.heap.size _ (mm1 ++ mm2) := hown
          obtain ⟨a5, c5, rfl, h5⟩ := hown0.slice
          go_wp2
          go_ret
          exact ⟨_, _, rfl, h5, hK⟩

set_option maxRecDepth 100000 in

theorem i_AddFactor1 {l : List Int} {b f : Nat} {w : World} (hf : f < 5) (hb : w.cell? ⟨b, 0, none⟩ = some (.int .i64 f)) :
    Calls Try.prog 33 #[.agg #[.int .i64 (at5 l 0), .int .i64 (at5 l 1), .int .i64 (at5 l 2), .int .i64 (at5 l 3), .int .i64 (at5 l 4)], .pointer (some ⟨b, 0, none⟩)] w (NewV w (.bool (at5 l f == -1))) := by
  have hlt : b < w.heap.size := by
    refine Classical.byContradiction fun h => ?_
    have : w.heap[b]? = none := Array.getElem?_eq_none (by omega)
    simp [World.cell?, this] at hb
  have hbA := (Below.refl w.heap.size w).alloc (Nat.le_refl _) (.cells #[.int .i64 (at5 l 0), .int .i64 (at5 l 1), .int .i64 (at5 l 2), .int .i64 (at5 l 3), .int .i64 (at5 l 4)] 50)
  have hcb := (hbA.cell (p := ⟨b, 0, none⟩) hlt).trans hb
  have hidx := idxAt5 w.heap.size hf
  have hcT := cell5 (heap_alloc_new w (.cells #[.int .i64 (at5 l 0), .int .i64 (at5 l 1), .int .i64 (at5 l 2), .int .i64 (at5 l 3), .int .i64 (at5 l 4)] 50)) hf
  go_enter Try.func33, Try.ntmps33
  go_wp2
  go_ret
  exact ⟨rfl, hbA⟩

/- Rows of patterns that are written in place: their cells, a place written, the end cleared; slices.DeleteFunc with the closure of AddFactor. -/
open Go.RowKit

/-- the least number of which something holds -/
theorem leastN {P : Nat → Prop} {n : Nat} (h : P n) : ∃ k, P k ∧ ∀ j, j < k → ¬ P j := by
  induction n using Nat.strongRecOn with
  | ind n ih =>
    by_cases hx : ∃ m, m < n ∧ P m
    · obtain ⟨m, h1, h2⟩ := hx
      exact ih m h1 h2
    · exact ⟨n, h, fun j hj hp => hx ⟨j, hj, hp⟩⟩
/-- the block g of room for cap patterns begins with the patterns ps -/
def RowP (w : World) (g cap : Nat) (ps : List (List Int)) : Prop :=
  ∃ cur : Array Value, w.heap[g]? = some (.cells cur 50 (0, 0)) ∧ ps.length ≤ cap ∧ cap ≤ maxLen ∧ cur.size = cap * 5 ∧ ∀ k l, ps[k]? = some l → ∀ j, j < 5 → cur[k * 5 + j]? = some (.int .i64 (at5 l j))
theorem OwnP.row {w : World} {B : Nat} {v : Value} {ps : List (List Int)} (h : OwnP w B v ps) (hne : ps ≠ []) : ∃ g cap, v = .slice (some ⟨g, 0, none⟩) ps.length cap ∧ B ≤ g ∧ RowP w g cap ps := by
  rcases h.2 with ⟨rfl, h0⟩ | ⟨g, cap, cur, rfl, hb, hg, hn, hm, hs, ht⟩
  · exact absurd (List.eq_nil_of_length_eq_zero h0) hne
  · refine ⟨g, cap, rfl, hb, cur, hg, hn, hm, hs, fun k l e j hj => ?_⟩
    have e2 := cs5_at e hj
    rw [← ht, List.getElem?_take] at e2
    split at e2
    · simpa using e2
    · cases e2
theorem cs5_len (ps : List (List Int)) : (ps.flatMap cs5).length = ps.length * 5 := by
  induction ps with
  | nil => rfl
  | cons p ps ih => rw [List.flatMap_cons, List.length_append, ih, List.length_cons]; show 5 + _ = _; omega
theorem RowP.own {w : World} {g cap B : Nat} {ps : List (List Int)} (h : RowP w g cap ps) (hB : B ≤ g) : OwnP w B (.slice (some ⟨g, 0, none⟩) ps.length cap) ps := by
  obtain ⟨cur, hg, hn, hm, hs, ht⟩ := h
  refine ⟨cs5_len ps, .inr ⟨g, cap, cur, rfl, hB, hg, hn, hm, hs, ?_⟩⟩
  apply List.ext_getElem?
  intro i
  by_cases hi : i < ps.length * 5
  · rw [List.getElem?_take, if_pos hi]
    obtain ⟨l, hl⟩ := at_of_lt (show i / 5 < ps.length by omega)
    have h1 := ht _ l hl (i % 5) (by omega)
    have h2 := cs5_at hl (show i % 5 < 5 by omega)
    have e : i / 5 * 5 + i % 5 = i := by omega
    rw [e] at h1 h2
    rw [h2]; simpa using h1
  · rw [List.getElem?_eq_none (by rw [List.length_take]; omega), List.getElem?_eq_none (by rw [cs5_len]; omega)]
theorem RowP.same {w w' : World} {g cap : Nat} {ps : List (List Int)} (h : RowP w g cap ps) (e : w'.heap[g]? = w.heap[g]?) : RowP w' g cap ps := by
  obtain ⟨cur, hg, rest⟩ := h
  exact ⟨cur, e.trans hg, rest⟩
theorem RowP.take {w : World} {g cap : Nat} {ps : List (List Int)} (h : RowP w g cap ps) (n : Nat) : RowP w g cap (ps.take n) := by
  obtain ⟨cur, hg, hn, hm, hs, ht⟩ := h
  refine ⟨cur, hg, by rw [List.length_take]; omega, hm, hs, fun k l e j hj => ht k l ?_ j hj⟩
  rw [List.getElem?_take] at e
  split at e
  · exact e
  · cases e
theorem RowP.lt {w : World} {g cap : Nat} {ps : List (List Int)} (h : RowP w g cap ps) : g < w.heap.size := by
  obtain ⟨cur, hg, _⟩ := h
  exact (Array.getElem?_eq_some_iff.1 hg).1
theorem RowP.cell {w : World} {g cap : Nat} {ps : List (List Int)} (h : RowP w g cap ps) {k : Nat} {l : List Int} (e : ps[k]? = some l) (j : Nat) (hj : j < 5) : w.cell? ⟨g, k * 5 + j, none⟩ = some (.int .i64 (at5 l j)) := by
  obtain ⟨cur, hg, _, _, _, ht⟩ := h
  rw [cell_of_row w g _ cur _ (0, 0) hg]; exact ht k l e j hj
theorem RowP.frozen {w : World} {g cap : Nat} {ps : List (List Int)} (h : RowP w g cap ps) (k : Nat) : w.frozen? ⟨g, k, none⟩ = false := by
  obtain ⟨cur, hg, _⟩ := h
  exact World.rowIs.frozen (t := 50) (n := cur.size) (f := fun i => cur.getD i undef) ⟨cur, hg, rfl, fun i hi => by simp [Array.getD, hi]⟩ k
theorem RowP.idx {g cap n k : Nat} (hk : k < n) (wx : World) : (Instr.indexAt 47 (.slice (some ⟨g, 0, none⟩) n cap) (.int .i64 (k : Int))).run Try.prog wx = .ok (.pointer (some ⟨g, k * 5, none⟩)) wx := by
  have h1 := sizePat wx
  simp [Instr.indexAt, run_underlying undPs, asIntOf, hk, Addr.add]
  try omega
theorem heap_set1 {w : World} {b t f : Nat} {c : Array Value} (h : w.heap[b]? = some (.cells c t (0, 0))) (v : Value) : (w.setCell ⟨b, f, none⟩ v).heap[b]? = some (.cells (c.setIfInBounds f v) t (0, 0)) := by
  simp only [World.setCell, Array.getElem?_modify, if_true]; rw [h]; rfl
/-- one place of it written -/
theorem RowP.set {w : World} {g cap : Nat} {ps : List (List Int)} (h : RowP w g cap ps) {i : Nat} (hi : i < ps.length) (l : List Int) :
    ∃ W, W = (((((w.setCell ⟨g, i * 5, none⟩ (.int .i64 (at5 l 0))).setCell ⟨g, i * 5 + 1, none⟩ (.int .i64 (at5 l 1))).setCell ⟨g, i * 5 + 2, none⟩ (.int .i64 (at5 l 2))).setCell ⟨g, i * 5 + 3, none⟩ (.int .i64 (at5 l 3))).setCell ⟨g, i * 5 + 4, none⟩ (.int .i64 (at5 l 4))) ∧
      RowP W g cap (ps.set i l) ∧ w.grownBy W (some g) := by
  obtain ⟨cur, hg, hn, hm, hs, ht⟩ := h
  have h0 := heap_set1 hg (f := i * 5) (.int .i64 (at5 l 0))
  have h1 := heap_set1 h0 (f := i * 5 + 1) (.int .i64 (at5 l 1))
  have h2 := heap_set1 h1 (f := i * 5 + 2) (.int .i64 (at5 l 2))
  have h3 := heap_set1 h2 (f := i * 5 + 3) (.int .i64 (at5 l 3))
  have h4 := heap_set1 h3 (f := i * 5 + 4) (.int .i64 (at5 l 4))
  refine ⟨_, rfl, ⟨_, h4, by rw [List.length_set]; exact hn, hm, by simp only [Array.size_setIfInBounds]; exact hs, fun k q e j hj => ?_⟩, ?_⟩
  · rw [List.getElem?_set] at e
    simp only [Array.getElem?_setIfInBounds, Array.size_setIfInBounds]
    by_cases hk : i = k
    · subst hk
      rw [if_pos rfl, if_pos hi] at e
      obtain rfl : l = q := Option.some.inj e
      obtain rfl | rfl | rfl | rfl | rfl : j = 0 ∨ j = 1 ∨ j = 2 ∨ j = 3 ∨ j = 4 := by omega
      · rw [if_neg (by omega), if_neg (by omega), if_neg (by omega), if_neg (by omega), if_pos (by omega), if_pos (by omega)]
      · rw [if_neg (by omega), if_neg (by omega), if_neg (by omega), if_pos (by omega), if_pos (by omega)]
      · rw [if_neg (by omega), if_neg (by omega), if_pos (by omega), if_pos (by omega)]
      · rw [if_neg (by omega), if_pos (by omega), if_pos (by omega)]
      · rw [if_pos (by omega), if_pos (by omega)]
    · rw [if_neg hk] at e
      have e0 := ht k q e j hj
      rw [if_neg (by omega), if_neg (by omega), if_neg (by omega), if_neg (by omega), if_neg (by omega)]
      exact e0
  · refine ⟨by simp only [World.setCell], by simp only [World.setCell], by simp only [World.setCell], by simp only [World.setCell, Array.size_modify, Nat.le_refl], fun k _ hk => ?_⟩
    have hk2 : g ≠ k := fun e => hk (by rw [e])
    simp only [World.setCell, Array.getElem?_modify, if_neg hk2]
/-- cells set one by one from a place on -/
theorem setCells_row (b : Nat) : ∀ (vs : List Value) (o : Nat) (w : World) (cur : Array Value) (t : Nat), w.heap[b]? = some (.cells cur t (0, 0)) →
    ∃ cur' : Array Value, (w.setCells b o vs).heap[b]? = some (.cells cur' t (0, 0)) ∧ cur'.size = cur.size ∧ (∀ i, i < o → cur'[i]? = cur[i]?) ∧ w.grownBy (w.setCells b o vs) (some b)
  | [], o, w, cur, t, h => ⟨cur, h, rfl, fun _ _ => rfl, ⟨rfl, rfl, rfl, Nat.le_refl _, fun _ _ _ => rfl⟩⟩
  | v :: r, o, w, cur, t, h => by
    obtain ⟨cur', h1, h2, h3, h4⟩ := setCells_row b r (o + 1) (w.setCell ⟨b, o, none⟩ v) (cur.setIfInBounds o v) t (heap_set1 h v)
    refine ⟨cur', h1, by rw [h2, Array.size_setIfInBounds], fun i hi => ?_, ?_⟩
    · rw [h3 i (by omega), Array.getElem?_setIfInBounds, if_neg (by omega)]
    · have hs : (w.setCell ⟨b, o, none⟩ v).heap.size = w.heap.size := by simp only [World.setCell, Array.size_modify]
      refine ⟨h4.os, h4.tape, h4.output, by have := h4.size; rw [hs] at this; exact this, fun k hk hn => (h4.block k (by rw [hs]; exact hk) hn).trans ?_⟩
      have hk2 : b ≠ k := fun e => hn (by rw [e])
      simp only [World.setCell, Array.getElem?_modify, if_neg hk2]
theorem zeroPat (w : World) : (zeroValue 50).run Try.prog w = .ok (.agg #[.int .i64 ((fun _ => 0) 0), .int .i64 ((fun _ => 0) 1), .int .i64 ((fun _ => 0) 2), .int .i64 ((fun _ => 0) 3), .int .i64 ((fun _ => 0) 4)]) w := by kernel_rfl
/-- the end of it cleared -/
theorem run_clearP {w : World} {g cap : Nat} {ps : List (List Int)} (h : RowP w g cap ps) {i n c : Nat} (hn : 0 < n) (hi : i + n ≤ ps.length) (ty : TypeId) :
    ∃ W, (Builtin.clear_ #[47] ty #[.slice (some ⟨g, i * 5, none⟩) n c]).run Try.prog w = .ok (.tuple #[]) W ∧ RowP W g cap (ps.take i) ∧ w.grownBy W (some g) := by
  have hRow := h
  obtain ⟨cur, hg, hl, hm, hs, ht⟩ := h
  have hlen : (Builtin.zeroCells (Value.agg #[.int .i64 ((fun _ => 0) 0), .int .i64 ((fun _ => 0) 1), .int .i64 ((fun _ => 0) 2), .int .i64 ((fun _ => 0) 3), .int .i64 ((fun _ => 0) 4)]).cells n).toList.length = n * 5 := by simp [Builtin.zeroCells, Value.cells]
  have hcell : ∀ j, j < n * 5 → (w.cell? ⟨g, i * 5 + j, none⟩).isSome = true := fun j hj => by
    rw [cell_of_row w g _ cur _ (0, 0) hg]
    rw [Array.getElem?_eq_getElem (by omega)]; rfl
  have hst := run_storeCells_cells (P := Try.prog) g (i * 5) (Builtin.zeroCells (Value.agg #[.int .i64 ((fun _ => 0) 0), .int .i64 ((fun _ => 0) 1), .int .i64 ((fun _ => 0) 2), .int .i64 ((fun _ => 0) 3), .int .i64 ((fun _ => 0) 4)]).cells n).toList 0 w (fun j hj => by simpa using hcell j (by rw [hlen] at hj; exact hj)) (fun j _ => by simpa using hRow.frozen _) (by
    intro v hv
    rw [Array.mem_toList_iff] at hv
    unfold Builtin.zeroCells at hv
    obtain ⟨i, _, rfl⟩ := Array.mem_map.1 hv
    have h5 : i % (Value.agg #[.int .i64 ((fun _ => 0) 0), .int .i64 ((fun _ => 0) 1), .int .i64 ((fun _ => 0) 2), .int .i64 ((fun _ => 0) 3), .int .i64 ((fun _ => 0) 4)]).cells.size < 5 := Nat.mod_lt _ (by decide)
    generalize i % (Value.agg #[.int .i64 ((fun _ => 0) 0), .int .i64 ((fun _ => 0) 1), .int .i64 ((fun _ => 0) 2), .int .i64 ((fun _ => 0) 3), .int .i64 ((fun _ => 0) 4)]).cells.size = q at h5 ⊢
    obtain rfl | rfl | rfl | rfl | rfl : q = 0 ∨ q = 1 ∨ q = 2 ∨ q = 3 ∨ q = 4 := by omega
    all_goals rfl)
  simp only [Nat.add_zero] at hst
  obtain ⟨cur', k1, k2, k3, k4⟩ := setCells_row g (Builtin.zeroCells (Value.agg #[.int .i64 ((fun _ => 0) 0), .int .i64 ((fun _ => 0) 1), .int .i64 ((fun _ => 0) 2), .int .i64 ((fun _ => 0) 3), .int .i64 ((fun _ => 0) 4)]).cells n).toList (i * 5) w cur _ hg
  obtain ⟨m, rfl⟩ : ∃ m, n = m + 1 := ⟨n - 1, by omega⟩
  refine ⟨_, ?_, ⟨cur', k1, by rw [List.length_take]; omega, hm, by rw [k2]; exact hs, fun k l e j hj => ?_⟩, k4⟩
  · simp [Builtin.clear_, run_underlying undPs, zeroPat, hst]
  · rw [List.getElem?_take] at e
    split at e
    · rename_i hk
      rw [k3 _ (by omega)]; exact ht k l e j hj
    · cases e

/- Walks: slices.IndexFunc and slices.DeleteFunc over patterns. -/
open Go.RowKit

/-- the index of the first one, or -1 -/
def ixI (q : List Int → Bool) (ps : List (List Int)) : Int := if ps.findIdx q < ps.length then (ps.findIdx q : Int) else -1
theorem ix_yes {q : List Int → Bool} {ps : List (List Int)} {k : Nat} {l : List Int} (hx : ps[k]? = some l) (hq : q l = true) (hA : ∀ j, j < k → ∀ l, ps[j]? = some l → q l = false) : ixI q ps = k := by
  have hk := lt_of_at hx
  have h1 : ps.findIdx q = k := by
    rw [List.findIdx_eq hk]
    refine ⟨?_, fun j hj => ?_⟩
    · have : ps[k] = l := by rw [List.getElem?_eq_getElem hk] at hx; exact Option.some.inj hx
      rw [this]; exact hq
    · exact hA j hj _ (List.getElem?_eq_getElem (by omega))
  unfold ixI; rw [h1, if_pos hk]
theorem ix_no {q : List Int → Bool} {ps : List (List Int)} (hA : ∀ j, j < ps.length → ∀ l, ps[j]? = some l → q l = false) : ixI q ps = -1 ∧ ps.filter (fun l => !q l) = ps := by
  have h0 : ∀ x ∈ ps, q x = false := fun x hx => by
    obtain ⟨j, hj⟩ := List.getElem?_of_mem hx
    exact hA j (lt_of_at hj) x hj
  constructor
  · unfold ixI
    rw [List.findIdx_eq_length.2 h0, if_neg (Nat.lt_irrefl _)]
  · rw [List.filter_eq_self]; intro x hx; rw [h0 x hx]; rfl
theorem below_grown {w w' : World} (h : Below w.heap.size w w') (o : Option Nat) : w.grownBy w' o := ⟨h.os, h.tape, h.output, h.size, fun k hk _ => h.block k hk⟩
theorem grown_trans {a b c : World} {o : Option Nat} (h : a.grownBy b o) (k : b.grownBy c o) : a.grownBy c o :=
  ⟨k.os.trans h.os, k.tape.trans h.tape, k.output.trans h.output, Nat.le_trans h.size k.size, fun j hj hn => (k.block j (Nat.lt_of_lt_of_le hj h.size) hn).trans (h.block j hj hn)⟩
theorem take_set {α : Type} (cur : List α) (i : Nat) (l : α) (h : i < cur.length) : (cur.set i l).take (i + 1) = cur.take i ++ [l] := by
  rw [List.take_add_one, List.take_set_of_le (Nat.le_refl _), List.getElem?_set_self h]; rfl
theorem drop_set {α : Type} (cur : List α) (i j : Nat) (l : α) (h : i < j) : (cur.set i l).drop j = cur.drop j := List.drop_set_of_lt h
theorem drop_next {α : Type} {cur ps : List α} {j : Nat} (h : cur.drop j = ps.drop j) : cur.drop (j + 1) = ps.drop (j + 1) := by
  rw [← List.drop_drop, ← List.drop_drop, h]
theorem drop_at {α : Type} {cur ps : List α} {j : Nat} (h : cur.drop j = ps.drop j) : cur[j]? = ps[j]? := by
  have := congrArg (fun l => l[0]?) h
  simpa using this

set_option maxRecDepth 100000 in
set_option maxHeartbeats 2000000 in
theorem x_IndexAdd {ps : List (List Int)} {v : Value} {B : Nat} {w : World} (rec : Value) (q : List Int → Bool) (ho : OwnP w B v ps) (hl : ps.length ≤ 1048576)
    (hcl : ∀ l ∈ ps, ∀ w', w.grownBy w' v.ownBlock → Calls Try.prog 33 #[.agg #[.int .i64 (at5 l 0), .int .i64 (at5 l 1), .int .i64 (at5 l 2), .int .i64 (at5 l 3), .int .i64 (at5 l 4)], rec] w' (NewV w' (.bool (q l)))) :
    Calls Try.prog 60 #[v, .func (.func 33) #[] #[rec]] w (NewV w (.int .i64 (ixI q ps))) := by
  obtain ⟨a, c, rfl, hat⟩ := ho.at
  have HAT := Lib.hid hat
  have HCL := Lib.hid hcl
  obtain ⟨M, hM⟩ : ∃ M, ps.length = M := ⟨_, rfl⟩
  have HNN := Lib.hid hM
  have hMl : M ≤ 1048576 := by omega
  rw [hM]
  clear hat ho hM hl hcl
  go_enter Try.func60, Try.ntmps60
  go_wp2
  go_loopw [8] (fun i wr => ∃ k : Nat, k ≤ M ∧ i = .int .i64 k ∧ Below w.heap.size w wr ∧ Hid (∀ j, j < k → ∀ l, ps[j]? = some l → q l = false)) (fun i _ => M - (intOf i).toNat)
  case atStart => exact ⟨0, Nat.zero_le _, rfl, Below.refl _ _, fun j hj => by omega⟩
  case round =>
    obtain ⟨k, hk, rfl, hB3, hA⟩ := hrel
    have hz3 := hB3.size
    by_cases hlt : k < M
    · obtain ⟨l, hx⟩ := at_of_lt (show k < ps.length by have := HNN.out; omega)
      obtain ⟨g, hg1, hg2, hidx, hcs⟩ := HAT.out k l hx
      have HX := Lib.hid hx
      rw [HNN.out] at hidx
      have hc (j : Nat) (hj : j < 5) : wr.cell? ⟨g, k * 5 + j, none⟩ = some (.int .i64 (at5 l j)) := (hB3.cell (p := ⟨g, k * 5 + j, none⟩) hg2).trans (hcs j hj)
      have hc0 := hc 0 (by omega)
      have hc1 := hc 1 (by omega)
      have hc2 := hc 2 (by omega)
      have hc3' := hc 3 (by omega)
      have hc4 := hc 4 (by omega)
      simp only [Nat.add_zero] at hc0
      have hcall := Lib.hid (HCL.out l (List.mem_of_getElem? hx) wr (below_grown hB3 _))
      clear hc hcs hx
      cases hm : q l
      · have HM := Lib.hid hm; clear hm
        have HA : Hid (∀ j, j < k + 1 → ∀ l, ps[j]? = some l → q l = false) := fun j hj l' hl' => by
          by_cases e : j = k
          · subst e; have := HX.out.symm.trans hl'; cases this; exact HM.out
          · exact hA.out j (by omega) l' hl'
        go_wp2_with fail
        refine hcall.out.mono ?_
        rintro e w2 ⟨rfl, hb2⟩
        rw [HM.out]
        have hB5 : Below w.heap.size w w2 := hB3.trans (hb2.mono (by omega))
        clear hc0 hc1 hc2 hc3' hc4 hb2 hB3
        go_wp2
        go_roundw
        case rel => exact ⟨k + 1, by omega, by go_num, hB5, HA⟩
        case measure => simp [intOf]; omega
      · have HM := Lib.hid hm; clear hm
        have HI : Hid (ixI q ps = k) := ix_yes HX.out HM.out hA.out
        go_wp2_with fail
        refine hcall.out.mono ?_
        rintro e w2 ⟨rfl, hb2⟩
        rw [HM.out]
        have hB5 : Below w.heap.size w w2 := hB3.trans (hb2.mono (by omega))
        go_wp2
        go_ret
        exact ⟨by rw [HI.out]; rfl, hB5⟩
    · have HI := ix_no (q := q) (ps := ps) fun j hj => hA.out j (by have := HNN.out; omega)
      have HI := Lib.hid HI.1
      go_wp2
      go_ret
      exact ⟨by rw [HI.out]; rfl, hB3⟩

set_option maxRecDepth 100000 in
set_option maxHeartbeats 4000000 in
theorem x_DelAdd {ps : List (List Int)} {v : Value} {B : Nat} {w : World} (rec : Value) (q : List Int → Bool) (ho : OwnP w B v ps) (hl : ps.length ≤ 1048576)
    (hcl : ∀ l ∈ ps, ∀ w', w.grownBy w' v.ownBlock → Calls Try.prog 33 #[.agg #[.int .i64 (at5 l 0), .int .i64 (at5 l 1), .int .i64 (at5 l 2), .int .i64 (at5 l 3), .int .i64 (at5 l 4)], rec] w' (NewV w' (.bool (q l)))) :
    Calls Try.prog 31 #[v, .func (.func 33) #[] #[rec]] w (fun e w' => ∃ v', e = .returned v' ∧ OwnP w' B v' (ps.filter fun l => !q l) ∧ GrP w w' v v') := by
  by_cases hall : ∀ j, j < ps.length → ∀ l, ps[j]? = some l → q l = false
  · have HN := Lib.hid (ix_no hall)
    have hix := x_IndexAdd rec q ho hl hcl
    obtain ⟨a, c, rfl, _⟩ := ho.at
    have hlto := ho.lt
    have HIX := Lib.hid hix
    clear hix hcl hall
    go_enter Try.func31, Try.ntmps31
    go_wp2_with fail
    refine HIX.out.mono ?_
    rintro e w1 ⟨rfl, hb1⟩
    rw [HN.out.1]
    go_wp2
    go_ret
    refine ⟨_, rfl, ?_, below_grown hb1 _, .inl rfl⟩
    rw [HN.out.2]
    exact ho.kept fun k hk _ => hb1.block k hk
  have hall2 : ∃ (k : Nat) (l : List Int), ps[k]? = some l ∧ q l = true ∧ ∀ j, j < k → ∀ l, ps[j]? = some l → q l = false := by
    have hex : ∃ (k : Nat), ∃ (l : List Int), ps[k]? = some l ∧ q l = true := by
      refine Classical.byContradiction fun hn => hall fun j _ l hl => ?_
      cases h : q l
      · rfl
      · exact absurd ⟨j, l, hl, h⟩ hn
    obtain ⟨k, hk⟩ := hex
    obtain ⟨k0, ⟨l0, h1, h2⟩, h3⟩ := leastN (P := fun k => ∃ l, ps[k]? = some l ∧ q l = true) hk
    exact ⟨k0, l0, h1, h2, fun j hj l hl => by
      cases h : q l
      · rfl
      · exact absurd ⟨l, hl, h⟩ (h3 j hj)⟩
  obtain ⟨k0, l0, hx0, hq0, hA0⟩ := hall2
  have hne : ps ≠ [] := by intro e; rw [e] at hx0; simp at hx0
  have hix := x_IndexAdd rec q ho hl hcl
  rw [ix_yes hx0 hq0 hA0] at hix
  obtain ⟨g, cap, rfl, hBg, hrow⟩ := ho.row hne
  have hflt : (ps.take (k0 + 1)).filter (fun l => !q l) = ps.take k0 := by
    rw [take_snoc hx0, List.filter_append, List.filter_eq_self.2 (fun x hx => ?_)]
    · simp [hq0]
    · obtain ⟨j, hj⟩ := List.getElem?_of_mem hx
      have hj2 := lt_of_at hj
      simp at hj2
      rw [List.getElem?_take, if_pos (by omega)] at hj
      rw [hA0 j (by omega) x hj]; rfl
  have hk0 := lt_of_at hx0
  have HIX := Lib.hid hix
  have HFL := Lib.hid hflt
  have HCL := Lib.hid hcl
  have HX0 := Lib.hid hx0
  have hg0 := hrow.lt
  have hcap := hrow
  obtain ⟨_, _, hcap1, hcap2, _⟩ := hcap
  obtain ⟨M, hM⟩ : ∃ M, ps.length = M := ⟨_, rfl⟩
  have HNN := Lib.hid hM
  rw [hM] at hcap1
  have hmx : cap ≤ 9223372036854775807 := by unfold maxLen at hcap2; omega
  have hMl : M ≤ 1048576 := by omega
  rw [hM] at hk0 HIX ⊢
  clear hix hcl hflt hall hne ho hx0 hq0 hA0 hM hl
  go_enter Try.func31, Try.ntmps31
  go_wp2_with fail
  refine HIX.out.mono ?_
  rintro e w1 ⟨rfl, hb1⟩
  have hrow1 := hrow.same (hb1.block g hg0)
  have hgr1 := below_grown hb1 (some g)
  have hneg : ((k0 : Int) == -1) = false := by rw [beq_eq_false_iff_ne]; omega
  have hneg2 : decide ((k0 : Int) = -1) = false := decide_eq_false (by omega)
  clear hrow hb1
  go_wp2
  go_loopw [5, 6] (fun vi vj wr => ∃ (i j : Nat) (cur : List (List Int)), i < j ∧ j ≤ M ∧ vi = .int .i64 i ∧ vj = .int .i64 j ∧ RowP wr g cap cur ∧ cur.length = M ∧ w.grownBy wr (some g) ∧ Hid (cur.take i = (ps.take j).filter (fun l => !q l) ∧ cur.drop j = ps.drop j ∧ i < M)) (fun _ vj _ => M - (intOf vj).toNat)
  case atStart => exact ⟨k0, k0 + 1, ps, by omega, by omega, rfl, by go_num, hrow1, HNN.out, hgr1, HFL.out.symm, rfl, hk0⟩
  case round =>
    clear hrow1 hgr1
    obtain ⟨i, j, cur, hij, hj, rfl, rfl, hrow, hcl, hgr, hI⟩ := hrel
    have hzr := hgr.size
    have hiM := hI.out.2.2
    by_cases hlt : j < M
    · obtain ⟨l, hx⟩ := at_of_lt (show j < ps.length by have := HNN.out; omega)
      have hxc := (drop_at hI.out.2.1).trans hx
      have hidx := RowP.idx (g := g) (cap := cap) hlt
      have hidi := RowP.idx (g := g) (cap := cap) hiM
      have hc := hrow.cell hxc
      have hc0 := hc 0 (by omega)
      have hc1 := hc 1 (by omega)
      have hc2 := hc 2 (by omega)
      have hc3' := hc 3 (by omega)
      have hc4 := hc 4 (by omega)
      simp only [Nat.add_zero] at hc0
      have hbA := (Below.refl wr.heap.size wr).alloc (Nat.le_refl _) (.cells #[.int .i64 (at5 l 0), .int .i64 (at5 l 1), .int .i64 (at5 l 2), .int .i64 (at5 l 3), .int .i64 (at5 l 4)] 50)
      have hbox := heap_alloc_new wr (.cells #[.int .i64 (at5 l 0), .int .i64 (at5 l 1), .int .i64 (at5 l 2), .int .i64 (at5 l 3), .int .i64 (at5 l 4)] 50)
      obtain ⟨t0, t1, t2, t3, t4⟩ := cells5' hbox
      have hcall := Lib.hid (HCL.out l (List.mem_of_getElem? hx) (wr.alloc (.cells #[.int .i64 (at5 l 0), .int .i64 (at5 l 1), .int .i64 (at5 l 2), .int .i64 (at5 l 3), .int .i64 (at5 l 4)] 50)) (grown_trans hgr (below_grown hbA _)))
      have HX := Lib.hid hx
      have hcurl : cur.length = M := hcl
      clear hc hx hxc
      cases hm : q l
      · have HM := Lib.hid hm; clear hm
        go_wp2_with fail
        refine hcall.out.mono ?_
        rintro e w2 ⟨rfl, hb2⟩
        rw [HM.out]
        have hb02 := hbA.trans (hb2.mono (by simp))
        have hrow2 := hrow.same (hb02.block g hrow.lt)
        obtain ⟨e0, e1, e2, e3, e4⟩ := cells5' ((hb2.block wr.heap.size (by simp)).trans hbox)
        obtain ⟨cu, hcu⟩ := at_of_lt (show i < cur.length by omega)
        have hd := hrow2.cell hcu
        have d0 := hd 0 (by omega)
        have d1 := hd 1 (by omega)
        have d2 := hd 2 (by omega)
        have d3 := hd 3 (by omega)
        have d4 := hd 4 (by omega)
        simp only [Nat.add_zero] at d0
        have hfz := hrow2.frozen
        have f0 := hfz (i * 5)
        have f1 := hfz (i * 5 + 1)
        have f2 := hfz (i * 5 + 2)
        have f3 := hfz (i * 5 + 3)
        have f4 := hfz (i * 5 + 4)
        clear hc0 hc1 hc2 hc3' hc4 t0 t1 t2 t3 t4 hd hfz hcu
        go_wp2
        obtain ⟨W, hW, hrowW, hgW⟩ := hrow2.set (i := i) (by omega) l
        rw [← hW]
        have HN : Hid ((cur.set i l).take (i + 1) = (ps.take (j + 1)).filter (fun l => !q l) ∧ (cur.set i l).drop (j + 1) = ps.drop (j + 1)) := by
          constructor
          · rw [take_set _ _ _ (by omega), hI.out.1, take_snoc HX.out, List.filter_append]; simp [HM.out]
          · rw [drop_set _ _ _ _ (by omega)]; exact drop_next hI.out.2.1
        have hgW' := grown_trans hgr (grown_trans (below_grown hb02 _) hgW)
        clear hW
        go_roundw
        case rel => exact ⟨i + 1, j + 1, cur.set i l, by omega, by omega, by go_num, by go_num, hrowW, by rw [List.length_set]; exact hcurl, hgW', HN.out.1, HN.out.2, by omega⟩
        case measure => simp [intOf]; omega
      · have HM := Lib.hid hm; clear hm
        go_wp2_with fail
        refine hcall.out.mono ?_
        rintro e w2 ⟨rfl, hb2⟩
        rw [HM.out]
        have hb02 := hbA.trans (hb2.mono (by simp))
        have hrow2 := hrow.same (hb02.block g hrow.lt)
        have hgr2 := grown_trans hgr (below_grown hb02 _)
        have HN : Hid (cur.take i = (ps.take (j + 1)).filter (fun l => !q l) ∧ cur.drop (j + 1) = ps.drop (j + 1)) := by
          constructor
          · rw [hI.out.1, take_snoc HX.out, List.filter_append]; simp [HM.out]
          · exact drop_next hI.out.2.1
        clear hc0 hc1 hc2 hc3' hc4 t0 t1 t2 t3 t4 hbox hrow hgr
        go_wp2
        go_roundw
        case rel => exact ⟨i, j + 1, cur, by omega, by omega, rfl, by go_num, hrow2, hcurl, hgr2, HN.out.1, HN.out.2, by omega⟩
        case measure => simp [intOf]; omega
    · obtain rfl : j = M := by omega
      have hfin : Hid (cur.take i = ps.filter (fun l => !q l)) := by
        show _ = _; rw [hI.out.1, List.take_of_length_le (by have := HNN.out; omega)]
      obtain ⟨W, hclr, hrowW, hgW⟩ := run_clearP hrow (i := i) (n := j - i) (c := cap - i) (by omega) (by omega) 0
      go_wp2
      go_ret
      have hown := hrowW.own hBg
      have hli : (cur.take i).length = i := by rw [List.length_take]; omega
      rw [hli] at hown
      refine ⟨_, rfl, ?_, grown_trans hgr hgW, .inl rfl⟩
      rw [← hfin.out]; exact hown

/- Walks: AddFactor of the program. -/
open Go.RowKit

theorem adB_noI {m : List Int} {s : List (List Int)} {l t : Int} (h : adG m s l t = false) : adL m s l t = [] ∧ adB m s l t = false := by
  have h2 : adB m s l t = false := by unfold adB; rw [h]; rfl
  exact ⟨ad_no h2, h2⟩
/-- what the program asks is what the document asks -/
theorem adG_eq {m : List Int} {s : List (List Int)} {l t : Int} : adG m s l t = (okM m && okS m s && okM (m ++ [l]) && decide (1 ≤ t) && inR t 0 ((m ++ [l]).length : Nat)) := by
  rw [Bool.eq_iff_iff]
  constructor
  · intro h
    obtain ⟨h1, h2, h3, h4, h5, h6, h7⟩ := adG_m h
    have h8 : okM (m ++ [l]) = true := adM_ok h1 h3 h4 h5
    rw [h1, h2, h8, decide_eq_true h6, inR_true.2 (by simp; omega)]; rfl
  · intro h
    simp only [Bool.and_eq_true, decide_eq_true_eq] at h
    obtain ⟨⟨⟨⟨h1, h2⟩, h3⟩, h4⟩, h5⟩ := h
    have h6 := okM_len h3
    have h7 := okM_at h3 (k := m.length) (x := l) (by simp)
    have h8 := inR_true.1 h5
    simp at h6 h8
    unfold adG
    rw [h1, h2, inR_true.2 h7, inR_true.2 (by omega), decide_eq_true (by omega)]; rfl

/- Walks: AddFactor of the program. -/
open Go.RowKit

theorem aBelowA {w w1 : World} (h : Below w.heap.size w w1) (o : Obj) : Below w.heap.size w (w1.alloc o) := h.alloc h.size o
theorem aBelowD {w w1 : World} (h : Below w.heap.size w w1) : Below w.heap.size w w1.drew := h.drew
theorem aBelowS {w0 w1 w2 : World} (h : Below w0.heap.size w0 w1) (k : Below w1.heap.size w1 w2) : Below w0.heap.size w0 w2 := h.trans (k.mono h.size)
theorem aBelowU {b : Nat} {w0 w1 w2 : World} (h : Below w0.heap.size w0 w1) (hb : w0.heap.size ≤ b) (k : Upd b (b + 1) w1 w2) : Below w0.heap.size w0 w2 :=
  h.trans ⟨k.os, k.tape, k.output, k.size, fun i hi => k.block i (by have := h.size; omega) (.inl (by omega))⟩
theorem makeLLk (K : Nat) (hK : K ≤ 20) (wx : World) : (Instr.makeSlice 23 (.int .i64 0) (.int .i64 (K : Int))).run Try.prog wx = .ok (.slice (some ⟨wx.heap.size, 0, none⟩) 0 K) (wx.alloc (.cells (madeCells #[.slice none 0 0] K) 22)) := by
  obtain ⟨inf, hinf, hz, hsz, hby⟩ := info_parts infoI
  have h := run_makeSlice (P := Try.prog) (w := wx) 23 22 inf (.slice none 0 0) undII hinf hz .i64 .i64 0 (K : Int) (by omega) (by omega) (by rw [hsz]; omega) (by rw [hby]; omega) (by omega)
  simpa [hsz, Value.cells] using h

/-- the three boxes of a test with each level -/
structure EachAt (r : List Int) (f n b : Nat) (w : World) : Prop where
  ht : w.heap[b]? = some (.cells #[.int .i64 (at5 r 0), .int .i64 (at5 r 1), .int .i64 (at5 r 2), .int .i64 (at5 r 3), .int .i64 (at5 r 4)] 50 (0, 0))
  hf : w.heap[b + 1]? = some (.cells #[.int .i64 f] 3 (0, 0))
  hn : w.heap[b + 2]? = some (.cells #[.int .i64 n] 3 (0, 0))
  hs : w.heap.size = b + 3

theorem wdB_len {n : Nat} (ps : List (List Int)) (r : List Int) (h : 1 ≤ n) : (wdB n ps r).length = r.length + 1 := wdC_row (bstL_mem _ (wdC_ne r h))

theorem i_withEach (r : List Int) (f n : Nat) (w : World) :
    Calls Try.prog 35 #[.agg #[.int .i64 (at5 r 0), .int .i64 (at5 r 1), .int .i64 (at5 r 2), .int .i64 (at5 r 3), .int .i64 (at5 r 4)], .int .i64 f, .int .i64 n] w (fun e w' => ∃ b, e = .returned (.func (.func 63) #[] #[.pointer (some ⟨b + 2, 0, none⟩), .pointer (some ⟨b, 0, none⟩), .pointer (some ⟨b + 1, 0, none⟩)]) ∧ Hid (EachAt r f n b w' ∧ w.heap.size ≤ b) ∧ Below w.heap.size w w') := by
  refine (i_withEachLevel (T := at5 r) (f := f) (n := n) (w := w)).mono ?_
  rintro e w' ⟨rfl, rfl⟩
  obtain ⟨o1, h1⟩ : ∃ o, o = Obj.cells #[.int .i64 (at5 r 0), .int .i64 (at5 r 1), .int .i64 (at5 r 2), .int .i64 (at5 r 3), .int .i64 (at5 r 4)] 50 := ⟨_, rfl⟩
  obtain ⟨o2, h2⟩ : ∃ o, o = Obj.cells #[.int .i64 f] 3 := ⟨_, rfl⟩
  obtain ⟨o3, h3⟩ : ∃ o, o = Obj.cells #[.int .i64 n] 3 := ⟨_, rfl⟩
  have e2 := heap_alloc_new (w.alloc o1) o2
  have e3 := heap_alloc_new ((w.alloc o1).alloc o2) o3
  simp only [World.size_alloc] at e2 e3
  have eb : Below w.heap.size w (((w.alloc o1).alloc o2).alloc o3) := (((Below.refl _ w).alloc (Nat.le_refl _) _).alloc (by simp) _).alloc (by simp <;> omega) _
  rw [← h1, ← h2, ← h3]
  refine ⟨w.heap.size, rfl, ⟨⟨?_, ?_, ?_, by simp⟩, Nat.le_refl _⟩, eb⟩
  · rw [← h1, Below.heap_alloc _ _ _ (by simp <;> omega), Below.heap_alloc _ _ _ (by simp)]; exact heap_alloc_new w _
  · rw [← h2, Below.heap_alloc _ _ _ (by simp <;> omega)]; exact e2
  · rw [← h3]; exact e3

/-- a box of zeros that a region has made, wherever it was made -/
def BoxZ (v : World) (q : Nat) : Prop :=
  v.heap[q]? = some (.cells #[.int .i64 ((fun _ => 0) 0), .int .i64 ((fun _ => 0) 1), .int .i64 ((fun _ => 0) 2), .int .i64 ((fun _ => 0) 3), .int .i64 ((fun _ => 0) 4)] 50 (0, 0)) ∧ (v.cell? ⟨q, 0, none⟩ = some (.int .i64 0) ∧ v.cell? ⟨q, 1, none⟩ = some (.int .i64 0) ∧ v.cell? ⟨q, 2, none⟩ = some (.int .i64 0) ∧ v.cell? ⟨q, 3, none⟩ = some (.int .i64 0) ∧ v.cell? ⟨q, 4, none⟩ = some (.int .i64 0)) ∧
  (v.frozen? ⟨q, 0, none⟩ = false ∧ v.frozen? ⟨q, 1, none⟩ = false ∧ v.frozen? ⟨q, 2, none⟩ = false ∧ v.frozen? ⟨q, 3, none⟩ = false ∧ v.frozen? ⟨q, 4, none⟩ = false)
theorem BoxZ.of {v : World} {q : Nat} (h : v.heap[q]? = some (.cells #[.int .i64 ((fun _ => 0) 0), .int .i64 ((fun _ => 0) 1), .int .i64 ((fun _ => 0) 2), .int .i64 ((fun _ => 0) 3), .int .i64 ((fun _ => 0) 4)] 50 (0, 0))) : BoxZ v q :=
  ⟨h, cells5' (P := fun _ => 0) h, frozen5 h 0, frozen5 h 1, frozen5 h 2, frozen5 h 3, frozen5 h 4⟩
theorem zbLt {v : World} {q : Nat} {o : Obj} (h : v.heap[q]? = some o) : q < v.heap.size := by
  refine Classical.byContradiction fun hn => ?_
  rw [Array.getElem?_eq_none (by omega)] at h; cases h
theorem zbA1 {v0 v1 : World} (h : Below (v0.alloc (.cells #[.int .i64 ((fun _ => 0) 0), .int .i64 ((fun _ => 0) 1), .int .i64 ((fun _ => 0) 2), .int .i64 ((fun _ => 0) 3), .int .i64 ((fun _ => 0) 4)] 50)).heap.size (v0.alloc (.cells #[.int .i64 ((fun _ => 0) 0), .int .i64 ((fun _ => 0) 1), .int .i64 ((fun _ => 0) 2), .int .i64 ((fun _ => 0) 3), .int .i64 ((fun _ => 0) 4)] 50)) v1) : Hid (v1.heap[v0.heap.size]? = some (.cells #[.int .i64 ((fun _ => 0) 0), .int .i64 ((fun _ => 0) 1), .int .i64 ((fun _ => 0) 2), .int .i64 ((fun _ => 0) 3), .int .i64 ((fun _ => 0) 4)] 50 (0, 0))) :=
  (h.block v0.heap.size (by simp)).trans (heap_alloc_new v0 _)
theorem zbA2 {v1 v2 : World} {r : List Int} {f n b q : Nat} (h1 : Hid (v1.heap[q]? = some (.cells #[.int .i64 ((fun _ => 0) 0), .int .i64 ((fun _ => 0) 1), .int .i64 ((fun _ => 0) 2), .int .i64 ((fun _ => 0) 3), .int .i64 ((fun _ => 0) 4)] 50 (0, 0)))) (hE : Hid (EachAt r f n b v2 ∧ v1.heap.size ≤ b)) (h : Below v1.heap.size v1 v2) : Hid (v2.heap[q]? = some (.cells #[.int .i64 ((fun _ => 0) 0), .int .i64 ((fun _ => 0) 1), .int .i64 ((fun _ => 0) 2), .int .i64 ((fun _ => 0) 3), .int .i64 ((fun _ => 0) 4)] 50 (0, 0)) ∧ q < b) :=
  ⟨(h.block q (zbLt h1.out)).trans h1.out, Nat.lt_of_lt_of_le (zbLt h1.out) hE.out.2⟩
theorem zb3 {v2 v3 : World} {b q : Nat} (h2 : Hid (v2.heap[q]? = some (.cells #[.int .i64 ((fun _ => 0) 0), .int .i64 ((fun _ => 0) 1), .int .i64 ((fun _ => 0) 2), .int .i64 ((fun _ => 0) 3), .int .i64 ((fun _ => 0) 4)] 50 (0, 0)) ∧ q < b)) (h : Upd b (b + 1) v2 v3) : BoxZ v3 q :=
  BoxZ.of ((h.block q (zbLt h2.out.1) (.inl h2.out.2)).trans h2.out.1)
theorem zbC3 {v2 v3 : World} {r : List Int} {f n b c : Nat} (hE : Hid (EachAt r f n b v2 ∧ c ≤ b)) (h : Upd b (b + 1) (v2.alloc (.cells #[.int .i64 ((fun _ => 0) 0), .int .i64 ((fun _ => 0) 1), .int .i64 ((fun _ => 0) 2), .int .i64 ((fun _ => 0) 3), .int .i64 ((fun _ => 0) 4)] 50)) v3) : BoxZ v3 v2.heap.size :=
  BoxZ.of ((h.block v2.heap.size (by simp) (.inr (by have := hE.out.1.hs; omega))).trans (heap_alloc_new v2 _))

/-- the box behind the region, made last .. -/
theorem leafD {v0 v3 : World} (f : Nat → Int) (h : Below v0.heap.size v0 v3) : ∃ (w4 : World) (q : Nat), w4 = v3.alloc (.cells #[.int .i64 (f 0), .int .i64 (f 1), .int .i64 (f 2), .int .i64 (f 3), .int .i64 (f 4)] 50) ∧ q = v3.heap.size ∧ w4.heap[q]? = some (.cells #[.int .i64 (f 0), .int .i64 (f 1), .int .i64 (f 2), .int .i64 (f 3), .int .i64 (f 4)] 50 (0, 0)) ∧ Below v0.heap.size v0 w4 ∧ v0.heap.size ≤ q :=
  ⟨_, _, rfl, rfl, heap_alloc_new v3 _, h.alloc h.size _, h.size⟩
/-- .. or made ahead -/
theorem leafS {v0 v3 : World} {p : Nat} (f : Nat → Int) (h : Below v0.heap.size v0 v3) (hb : v3.heap[p]? = some (.cells #[.int .i64 ((fun _ => 0) 0), .int .i64 ((fun _ => 0) 1), .int .i64 ((fun _ => 0) 2), .int .i64 ((fun _ => 0) 3), .int .i64 ((fun _ => 0) 4)] 50 (0, 0))) (hp : v0.heap.size ≤ p) :
    ∃ (w4 : World) (q : Nat), w4 = (((((v3.setCell ⟨p, 0, none⟩ (.int .i64 (f 0))).setCell ⟨p, 1, none⟩ (.int .i64 (f 1))).setCell ⟨p, 2, none⟩ (.int .i64 (f 2))).setCell ⟨p, 3, none⟩ (.int .i64 (f 3))).setCell ⟨p, 4, none⟩ (.int .i64 (f 4))) ∧ q = p ∧ w4.heap[q]? = some (.cells #[.int .i64 (f 0), .int .i64 (f 1), .int .i64 (f 2), .int .i64 (f 3), .int .i64 (f 4)] 50 (0, 0)) ∧ Below v0.heap.size v0 w4 ∧ v0.heap.size ≤ q := by
  obtain ⟨W, hW, h1, h2, h3, h4⟩ := set5w (w := v3) (by rfl) hb (.int .i64 (f 0)) (.int .i64 (f 1)) (.int .i64 (f 2)) (.int .i64 (f 3)) (.int .i64 (f 4))
  exact ⟨W, p, hW, rfl, h1, h.trans ⟨h4.1, h4.2.1, h4.2.2, by omega, fun k hk => h2 k (by omega)⟩, hp⟩
theorem kset {w : World} {b q o j : Nat} {v x : Value} (hne : b ≠ q) (h : w.cell? ⟨b, o, none⟩ = some x) : (w.setCell ⟨q, j, none⟩ v).cell? ⟨b, o, none⟩ = some x :=
  (World.cell?_of_block (a := ⟨b, o, none⟩) (Below.heap_setCell _ _ _ _ hne)).trans h

theorem i_bestEach {r : List Int} {f n b : Nat} {ps : List (List Int)} {v : Value} {Bp : Nat} {wp W w : World} (hr : r.length = f) (hf : f < 5) (hn : n ≤ 3)
    (hE : EachAt r f n b W) (hb : Below W.heap.size W w) (ho : OwnP wp Bp v ps) (hbp : Below wp.heap.size wp w) (hpW : wp.heap.size ≤ b) (hl : ps.length ≤ 1048576) (hpr : ∀ p ∈ ps, p.length = f + 1) :
    Calls Try.prog 34 #[.func (.func 63) #[] #[.pointer (some ⟨b + 2, 0, none⟩), .pointer (some ⟨b, 0, none⟩), .pointer (some ⟨b + 1, 0, none⟩)], v] w (fun e w' => e = .returned (.agg #[.int .i64 (at5 (wdB n ps r) 0), .int .i64 (at5 (wdB n ps r) 1), .int .i64 (at5 (wdB n ps r) 2), .int .i64 (at5 (wdB n ps r) 3), .int .i64 (at5 (wdB n ps r) 4)]) ∧ Upd b (b + 1) w w') := by
  have hs := hE.hs
  have hz := hb.size
  have hseq := withEach1_seq (n₀ := W.heap.size) (w := W) hr hf hn hE.ht hE.hf hE.hn (by omega) (by omega) (by omega) (by omega) (by omega) (Nat.le_refl _)
  have hbe : bstL (fun x => met5 ps (at5 x)) (wdC n r) = bstL (frP ps) (wdC n r) := bstL_congr fun x hx => met_fr (by have := wdC_row hx; omega) fun p hp => by rw [hpr p hp, wdC_row hx, hr]
  have h := i_bestOf (enters_of Try.func63 (by kernel_rfl) rfl) hseq hz (by omega) hb ho hbp (fun k _ hk => .inl (by omega)) hl
  rw [hbe] at h
  exact h

/-- an array stored into a box -/
theorem step_store5 {wr : World} {ops : Array Oper} {o : Oper} {a : Act} {K : Act → World → Prop} {Q : Exit → Act → World → Prop} {E : Prop} (hgd : o.guard = none) (p v : Operand)
    (ho : o.op = .store 50 p v) (b : Nat) (f g : Nat → Int) (hp : a.eval p = .pointer (some ⟨b, 0, none⟩)) (hv : a.eval v = .agg #[.int .i64 (f 0), .int .i64 (f 1), .int .i64 (f 2), .int .i64 (f 3), .int .i64 (f 4)])
    (hb : wr.heap[b]? = some (.cells #[.int .i64 (g 0), .int .i64 (g 1), .int .i64 (g 2), .int .i64 (g 3), .int .i64 (g 4)] 50 (0, 0)))
    (h : ∀ w', w'.heap[b]? = some (.cells #[.int .i64 (f 0), .int .i64 (f 1), .int .i64 (f 2), .int .i64 (f 3), .int .i64 (f 4)] 50 (0, 0)) → Upd b (b + 1) wr w' → w'.heap.size = wr.heap.size → K (a.put o.dst undef) w') : if Region.wanted o (yielded ops a.tmps) = true then Oper.wp Try.prog o a wr K Q else E := by
  have hw : Region.wanted o (yielded ops a.tmps) = true := by simp [Region.wanted, hgd]
  rw [if_pos hw]
  refine wp_store_mid 50 p v ho b 0 #[.int .i64 (f 0), .int .i64 (f 1), .int .i64 (f 2), .int .i64 (f 3), .int .i64 (f 4)] hp hv (fun j hj => ?_) infoPatB (by simp [Value.oneCell']) ?_
  · have hj5 : j < 5 := hj
    rw [Nat.zero_add, cell5 hb hj5]
    exact ⟨rfl, frozen5 hb j⟩
  · obtain ⟨W, hW, h1, h2, h3, h4⟩ := set5w (w := wr) (by rfl) hb (.int .i64 (f 0)) (.int .i64 (f 1)) (.int .i64 (f 2)) (.int .i64 (f 3)) (.int .i64 (f 4))
    have hE : wr.setCells b 0 (#[.int .i64 (f 0), .int .i64 (f 1), .int .i64 (f 2), .int .i64 (f 3), .int .i64 (f 4)]).toList = W := hW.symm
    rw [hE]
    exact h W h1 ⟨h4.1, h4.2.1, h4.2.2, by omega, fun k _ hk => h2 k (by omega)⟩ h3

set_option maxRecDepth 100000 in
set_option maxHeartbeats 8000000 in
theorem i_AddFactor {m : List Int} {s : List (List Int)} {a a' : Option Addr} {c c' lo hi lo' hi' : Nat} {w : World} {l t : Int} (hm : RI w lo hi a m) (hlm : m.length ≤ 1048576) (hs : RII w lo' hi' a' s) (hls : s.length ≤ 9223372036854775807) (hg : ∀ r ∈ s, r.length ≤ 9223372036854775807) (_hl0 : -9223372036854775808 ≤ l) (_hl1 : l ≤ 9223372036854775807) (_ht0 : -9223372036854775808 ≤ t) (_ht1 : t ≤ 9223372036854775807) (hB : hi ≤ w.heap.size) (hB' : hi' ≤ w.heap.size) :
    Calls Try.prog 9 #[.slice a m.length c, .slice a' s.length c', .int .i64 l, .int .i64 t] w (NewIIB w (adL m s l t) (adB m s l t)) := by
  have HG := Lib.hid hg; clear hg
  obtain ⟨M, hM⟩ : ∃ M, m ++ [l] = M := ⟨_, rfl⟩
  have hE := @adG_eq m s l t
  rw [hM] at hE
  have HE := Lib.hid hE
  have hMl : M.length = m.length + 1 := by rw [← hM]; simp
  have HM := Lib.hid hM
  have HML := Lib.hid hMl
  have hMb : M.length ≤ 1048577 := by omega
  -- the two boxes
  obtain ⟨W1, hW1⟩ : ∃ W, w.alloc (.cells #[.int .i64 l] 3) = W := ⟨_, rfl⟩
  have hb1 : Below w.heap.size w W1 := by rw [← hW1]; exact (Below.refl w.heap.size w).alloc (Nat.le_refl _) _
  have hz1 : W1.heap.size = w.heap.size + 1 := by rw [← hW1]; simp
  have hrl : RI W1 0 (w.heap.size + 1) (some ⟨w.heap.size, 0, none⟩) [l] := by
    rw [← hW1]; intro k hk
    obtain rfl : k = 0 := by simpa using hk
    exact ⟨w.heap.size, 0, rfl, Nat.zero_le _, Nat.lt_succ_self _, l, rfl, by rw [cell_of_row _ _ 0 _ _ _ (heap_alloc_new w _)]; rfl⟩
  obtain ⟨W2, hW2⟩ : ∃ W, W1.alloc (.cells #[.slice a m.length c, .slice (some ⟨w.heap.size, 0, none⟩) 1 1] 22) = W := ⟨_, rfl⟩
  have hb2 : Below W1.heap.size W1 W2 := by rw [← hW2]; exact (Below.refl W1.heap.size W1).alloc (Nat.le_refl _) _
  have hz2 : W2.heap.size = W1.heap.size + 1 := by rw [← hW2]; simp
  have e1 : W2.cell? ⟨W1.heap.size, 0, none⟩ = some (.slice a m.length c) := by rw [← hW2, cell_of_row _ _ 0 _ _ _ (heap_alloc_new W1 _)]; rfl
  have e2 : W2.cell? ⟨W1.heap.size, 1, none⟩ = some (.slice (some ⟨w.heap.size, 0, none⟩) 1 1) := by rw [← hW2, cell_of_row _ _ 1 _ _ _ (heap_alloc_new W1 _)]; rfl
  have hb02 := hb1.trans (hb2.mono (by omega))
  have hm2 : RI W2 0 (w.heap.size + 1) a m := (hm.below hb02 hB).wide (Nat.zero_le _) (by omega)
  have hl2 := hrl.below hb2 (by omega)
  have HW1 := Lib.hid hW1; have HW2 := Lib.hid hW2
  have HCC := Lib.hid (x_ConcatO e1 e2 (by omega) rfl (by simp) hm2 hl2 (by omega) hlm (by omega))
  rw [hM] at HCC
  have hn1 : w.heap.size + 1 = W1.heap.size := hz1.symm
  have HN1 := Lib.hid hn1
  clear hW1 hW2 hM hE hMl hrl e1 e2 hm2 hl2 hn1
  go_enter Try.func9, Try.ntmps9
  go_wp2_with fail
  try rw [HW1.out]
  try rw [HN1.out]
  try rw [HW2.out]
  refine HCC.out.mono ?_
  rintro e w3 ⟨Ma, Mc, rfl, hMo, hb3⟩
  have hz3 := hb3.size
  have hb03 := hb02.trans (hb3.mono (by omega))
  have hz03 := hb03.size
  have hm3 := hm.below hb03 hB
  have hs3 := hs.below hb03 hB'
  clear hb02 hb3 hm hs hb1 hb2
  go_wp2_with fail
  refine (i_ValidSuite hm3 (by omega) hs3 hls HG.out).mono ?_
  rintro e w4 ⟨rfl, d4⟩
  have d4 : Dr w3 w4 := d4
  cases hv : (okM m && okS m s)
  · have HN := Lib.hid (adB_noI (show adG m s l t = false by rw [HE.out, hv]; rfl))
    go_wp2
    go_ret2
    exact NewIIB.none HN.out (hb03.trans (Dr.below d4 _))
  have HV := Lib.hid hv; clear hv
  go_wp2_with fail
  refine (i_ValidModel (hMo.ri.dr d4) (by omega)).mono ?_
  rintro e w5 ⟨rfl, d5⟩
  have d5 : Dr w3 w5 := d4.trans d5
  cases hvM : okM M
  · have HN := Lib.hid (adB_noI (show adG m s l t = false by rw [HE.out, hvM]; simp))
    go_wp2
    go_ret2
    exact NewIIB.none HN.out (hb03.trans (Dr.below d5 _))
  have HVM := Lib.hid hvM; clear hvM
  by_cases ht1 : t < 1
  · have HN := Lib.hid (adB_noI (show adG m s l t = false by rw [HE.out, show decide (1 ≤ t) = false from decide_eq_false (by omega)]; simp))
    go_wp2
    go_ret2
    exact NewIIB.none HN.out (hb03.trans (Dr.below d5 _))
  go_wp2_with fail
  refine (i_isStrength (by omega)).mono ?_
  rintro e w6 ⟨rfl, d6⟩
  have d6 : Dr w3 w6 := d5.trans d6
  cases hin : inR t 0 (M.length : Nat)
  · have HN := Lib.hid (adB_noI (show adG m s l t = false by rw [HE.out, hin]; simp))
    go_wp2
    go_ret2
    exact NewIIB.none HN.out (hb03.trans (Dr.below d6 _))
  have HADG : Hid (adG m s l t = true) := by show _ = _; rw [HE.out, HV.out, HVM.out, hin, show decide (1 ≤ t) = true from decide_eq_true (by omega)]; rfl
  have hin' := inR_true.1 hin
  have hpa := adG_m HADG.out
  have hM5 := okM_len HVM.out
  have hm4 : m.length ≤ 4 := by have := HML.out; omega
  have hsl := okS_len hpa.2.1
  have HOS := Lib.hid hpa.2.1
  have hz6 := Dr.le d6
  have hm6 := hm3.dr d6
  have hs6 := hs3.dr d6
  have hM6 := hMo.ri.dr d6
  have hb06 := hb03.trans (Dr.below d6 _)
  clear hin d4 d5 d6 hm3 hs3 hMo hb03
  go_wp2_with fail
  have HMe : Hid (adM m l = M) := HM.out
  have hbA := (Below.refl w6.heap.size w6).alloc (Nat.le_refl _) (.cells #[.int .i64 (m.length : Int)] 3)
  have hzA : (w6.alloc (.cells #[.int .i64 (m.length : Int)] 3)).heap.size = w6.heap.size + 1 := by simp
  have hcb : (w6.alloc (.cells #[.int .i64 (m.length : Int)] 3)).cell? ⟨w6.heap.size, 0, none⟩ = some (.int .i64 (m.length : Int)) := by rw [cell_of_row _ _ 0 _ _ _ (heap_alloc_new w6 _)]; rfl
  obtain ⟨W7, hW7⟩ : ∃ W, w6.alloc (.cells #[.int .i64 (m.length : Int)] 3) = W := ⟨_, rfl⟩
  rw [hW7] at hbA hzA hcb ⊢
  clear hW7
  have hM7 := hM6.below hbA (by omega)
  refine (i_patternsOf HVM.out hM7 (by omega) hin'.1 hin'.2).mono ?_
  rintro e w8 ⟨v8, rfl, hP, hb8⟩
  have hz8 := hb8.size
  have hPL := patS_len HVM.out t (head := [])
  obtain ⟨P, hPe⟩ : ∃ P, patS M [] t = P := ⟨_, rfl⟩
  rw [hPe] at hP hPL
  have HPE := Lib.hid hPe
  have hcb8 := (hb8.cell (p := ⟨w6.heap.size, 0, none⟩) (by show w6.heap.size < _; omega)).trans hcb
  have HLT8 := Lib.hid hP.lt
  have HDE := Lib.hid (x_DelAdd (.pointer (some ⟨w6.heap.size, 0, none⟩)) (fun q => at5 q m.length == -1) hP (by omega) (fun q _ w' hg => i_AddFactor1 (by omega) ((World.cell?_of_block (w := w8) (a := ⟨w6.heap.size, 0, none⟩) (hg.block w6.heap.size (by omega) (fun e => by have := HLT8.out _ e.symm; omega))).trans hcb8)))
  have hM8 := hM7.below hb8 (by omega)
  have hb68 := hbA.trans (hb8.mono (by omega))
  clear hPe hP hbA hb8 hcb hM7 hM6
  go_wp2_with fail
  refine HDE.out.mono ?_
  rintro e w9 ⟨v9, rfl, hL, hgr⟩
  have hb89 := hgr.below (B := W7.heap.size) (fun g hg => (HLT8.out g hg).1) (by omega)
  have hL : OwnP w9 W7.heap.size v9 (hvF m.length P) := hL
  obtain ⟨LF, hLF⟩ : ∃ LF, hvF m.length P = LF := ⟨_, rfl⟩
  have HLF := Lib.hid hLF
  rw [hLF] at hL
  obtain ⟨va, vc, rfl, _⟩ := hL.at
  have hz9 := hb89.size
  have hcb9 := (hb89.cell (p := ⟨w6.heap.size, 0, none⟩) (by show w6.heap.size < _; omega)).trans hcb8
  have hb69 := hb68.trans (hb89.mono (by omega))
  have hb09 := hb06.trans (hb69.mono (by omega))
  have hs9 := hs6.below hb69 (by omega)
  have hM9 := hM8.below hb89 (by omega)
  have HLT9 := Lib.hid hL.lt
  obtain ⟨n, rfl⟩ := Int.eq_ofNat_of_zero_le (show 0 ≤ l by omega)
  have hn1 : 1 ≤ n := by omega
  have hn3 : n ≤ 3 := by omega
  obtain ⟨f, hf⟩ : ∃ f, m.length = f := ⟨_, rfl⟩
  have HF := Lib.hid hf
  have hll0 : LF.length ≤ 1048576 := by rw [← hLF]; exact Nat.le_trans (List.length_filter_le _ _) (by omega)
  have hmk := makeLLk s.length hsl
  have hst := OwnLL.room w9 w9.heap.size s.length 22 rfl (Nat.le_refl _) (by unfold maxLen; omega)
  have hb9A := (Below.refl w9.heap.size w9).alloc (Nat.le_refl _) (.cells (madeCells #[.slice none 0 0] s.length) 22)
  have hLA : OwnP (w9.alloc (.cells (madeCells #[.slice none 0 0] s.length) 22)) W7.heap.size (.slice va LF.length vc) LF := hL.kept fun k hk _ => hb9A.block k hk
  have hoff0 : Hid (∀ g, (Value.slice va LF.length vc).ownBlock = some g → (Value.slice (some ⟨w9.heap.size, 0, none⟩) 0 s.length).ownBlock ≠ some g) := fun g h1 h2 => by
    have := (hL.lt g h1).2
    simp [Value.ownBlock] at h2; omega
  have hG0 : Hid (wdG n (s.take 0) LF = ([], LF)) := rfl
  have hbr0 : Below w9.heap.size w9 (w9.alloc (.cells (madeCells #[.slice none 0 0] s.length) 22)) := hb9A
  clear hgr hb89 hcb8 hM8 hm6 hs6 hb68 hb06 hL HDE HLT8 hPL hf hLF hb9A
  go_wp2
  clear hmk
  go_loopw [12, 13, 53] (fun vo vg iv wr => ∃ (k : Nat) (av : Option Addr) (cv : Nat) (ps' out : List (List Int)) (ao : Addr) (co Bq : Nat), k ≤ s.length ∧ iv = .int .i64 k ∧ vo = .slice av ps'.length cv ∧ vg = .slice (some ao) out.length co ∧ OwnP wr Bq (.slice av ps'.length cv) ps' ∧
    Hid (∀ g, (Value.slice av ps'.length cv).ownBlock = some g → (Value.slice (some ao) out.length co).ownBlock ≠ some g) ∧ OwnLL wr w9.heap.size (.slice (some ao) out.length co) out ∧ Below w9.heap.size w9 wr ∧ Hid (wdG n (s.take k) LF = (out, ps'))) (fun _ _ iv _ => s.length - (intOf iv).toNat)
  case atStart => exact ⟨0, va, vc, LF, [], _, _, _, Nat.zero_le _, rfl, rfl, rfl, hLA, hoff0, hst, hbr0, hG0⟩
  case round =>
    clear hLA hoff0 hst hbr0 hG0
    obtain ⟨k, av, cv, ps', out, ao, co, Bq, hk, rfl, rfl, rfl, hop, hoff, ho, hBl, hG⟩ := hrel
    obtain ⟨v0, hv0⟩ : ∃ y : World, y = wr := ⟨_, rfl⟩
    subst hv0
    have hz0 := hBl.size
    by_cases hlt : k < s.length
    · obtain ⟨b, o, a3, c3, r, ha, _, hb2, hcell, hr, hx⟩ := (hs9.below hBl (by omega)).at hlt
      have hidx := idxII ha hlt c'
      have hpl' : ps'.length ≤ 1048576 := by have := (wdG_len n (s.take k) LF).2; rw [hG.out] at this; simp at this; omega
      have hol : out.length ≤ 20 := by have := (wdG_len n (s.take k) LF).1; rw [hG.out] at this; simp at this; omega
      have hrl := okW_len (okS_all HOS.out (List.mem_of_getElem? hx.out))
      have HRF : Hid (r.length = f) := by show _ = _; rw [HF.out.symm]; exact hrl
      have HSN : Hid (wdG n (s.take (k + 1)) LF = (out ++ [wdB n ps' r], rstP ps' (wdB n ps' r))) := by show _ = _; rw [take_snoc hx.out, wdG_snoc, hG.out]
      have HPR : Hid (∀ p ∈ ps', p.length = f + 1) := fun p hp => by
        have h1 : p ∈ LF := wdG_left n (s.take k) LF p (by rw [hG.out]; exact hp)
        rw [← HLF.out] at h1
        have h2 := hvF_mem h1
        rw [← HPE.out] at h2
        have h3 := patS_row _ h2
        rw [h3, HML.out, HF.out]
      have hf4 : f ≤ 4 := by have := HF.out; omega
      have HPO : Hid (∀ w', Below v0.heap.size v0 w' → Calls Try.prog 36 #[.slice a3 r.length c3] w' (NewV w' (.agg #[.int .i64 (at5 r 0), .int .i64 (at5 r 1), .int .i64 (at5 r 2), .int .i64 (at5 r 3), .int .i64 (at5 r 4)]))) := fun w' hb => i_patternOf (hr.below hb (by omega)) (by have := hb.size; omega) (by omega)
      have HWE : Hid (∀ w', Calls Try.prog 35 #[.agg #[.int .i64 (at5 r 0), .int .i64 (at5 r 1), .int .i64 (at5 r 2), .int .i64 (at5 r 3), .int .i64 (at5 r 4)], .int .i64 (m.length : Int), .int .i64 (n : Int)] w' (fun e w'' => ∃ b, e = .returned (.func (.func 63) #[] #[.pointer (some ⟨b + 2, 0, none⟩), .pointer (some ⟨b, 0, none⟩), .pointer (some ⟨b + 1, 0, none⟩)]) ∧ Hid (EachAt r f n b w'' ∧ w'.heap.size ≤ b) ∧ Below w'.heap.size w' w'')) := fun w' => by rw [HF.out]; exact i_withEach r f n w'
      obtain ⟨x, hx2⟩ : ∃ x, wdB n ps' r = x := ⟨_, rfl⟩
      have HBE : Hid (∀ b v2 w', EachAt r f n b v2 → v0.heap.size ≤ b → Below v0.heap.size v0 v2 → Below v2.heap.size v2 w' → Calls Try.prog 34 #[.func (.func 63) #[] #[.pointer (some ⟨b + 2, 0, none⟩), .pointer (some ⟨b, 0, none⟩), .pointer (some ⟨b + 1, 0, none⟩)], .slice av ps'.length cv] w' (fun e w'' => e = .returned (.agg #[.int .i64 (at5 x 0), .int .i64 (at5 x 1), .int .i64 (at5 x 2), .int .i64 (at5 x 3), .int .i64 (at5 x 4)]) ∧ Upd b (b + 1) w' w'')) := fun b v2 w' h1 h2 h3 h4 => by
        have h := i_bestEach HRF.out (by omega) hn3 h1 h4 hop (h3.trans (h4.mono h3.size)) h2 hpl' HPR.out
        rw [hx2] at h; exact h
      have HS : Hid (∀ w', Below v0.heap.size v0 w' → w'.cell? ⟨w6.heap.size, 0, none⟩ = some (.int .i64 (m.length : Int))) := fun w' hb => (hb.cell (p := ⟨w6.heap.size, 0, none⟩) (by show w6.heap.size < _; omega)).trans ((hBl.cell (p := ⟨w6.heap.size, 0, none⟩) (by show w6.heap.size < _; omega)).trans hcb9)
      have HX2 := Lib.hid hx2
      have hq0 : Below v0.heap.size v0 v0 := Below.refl _ _
      clear hrl ha hx hx2
      go_wp2_with fail
      go_region_held3 (fun w' => w'.cell? ⟨w6.heap.size, 0, none⟩ = some (.int .i64 (m.length : Int))) (first | (refine HS.out _ ?_; (repeat (first | with_reducible exact hq3 | with_reducible exact hq2 | with_reducible exact hq1 | with_reducible exact hq0 | with_reducible refine aBelowA ?_ _ | with_reducible refine aBelowD ?_)); done) | (have h1 := hq1.size; have h2 := hq2.size; refine kset (by omega) ?_; refine kset (by omega) ?_; refine kset (by omega) ?_; refine kset (by omega) ?_; refine kset (by omega) ?_; exact HS.out _ hq3) | go_keep) ((first
        | (go_at_call 36; refine (HPO.out _ (by (repeat (first | with_reducible exact hq2 | with_reducible exact hq1 | with_reducible exact hq0 | with_reducible refine aBelowA ?_ _ | with_reducible refine aBelowD ?_)))).mono ?_; rintro e v1 ⟨rfl, hbP⟩; have hq1 : Below v0.heap.size v0 v1 := aBelowS (by (repeat (first | with_reducible exact hq2 | with_reducible exact hq1 | with_reducible exact hq0 | with_reducible refine aBelowA ?_ _ | with_reducible refine aBelowD ?_))) hbP; try (have hbx1 : Hid (v1.heap[v0.heap.size]? = some (.cells #[.int .i64 ((fun _ => 0) 0), .int .i64 ((fun _ => 0) 1), .int .i64 ((fun _ => 0) 2), .int .i64 ((fun _ => 0) 3), .int .i64 ((fun _ => 0) 4)] 50 (0, 0))) := zbA1 (v0 := v0.drew) hbP))
        | (go_at_call 35; refine (HWE.out _).mono ?_; rintro e v2 ⟨b2, rfl, hE2, hbW⟩; have hq2 : Below v0.heap.size v0 v2 := aBelowS (by (repeat (first | with_reducible exact hq2 | with_reducible exact hq1 | with_reducible exact hq0 | with_reducible refine aBelowA ?_ _ | with_reducible refine aBelowD ?_))) hbW; have hz2 : Below v2.heap.size v2 v2 := Below.refl _ _; have hvb2 : v0.heap.size ≤ b2 := Nat.le_trans (Below.size (by (repeat (first | with_reducible exact hq2 | with_reducible exact hq1 | with_reducible exact hq0 | with_reducible refine aBelowA ?_ _ | with_reducible refine aBelowD ?_)))) hE2.out.2; first | (have hbx2 := zbA2 hbx1 hE2 hbW) | (have hbx2 := zbA2 (q := v1.heap.size) (heap_alloc_new v1 _) hE2 hbW) | skip)
        | (go_at_call 34; refine (HBE.out b2 v2 _ hE2.out.1 hvb2 hq2 (by (repeat (first | with_reducible exact hz2 | with_reducible refine aBelowA ?_ _ | with_reducible refine aBelowD ?_)))).mono ?_; rintro e v3 ⟨rfl, hu3⟩; have hq3 : Below v0.heap.size v0 v3 := aBelowU (by (repeat (first | with_reducible exact hq2 | with_reducible exact hq1 | with_reducible exact hq0 | with_reducible refine aBelowA ?_ _ | with_reducible refine aBelowD ?_))) hvb2 hu3; first | (have hbx3 := zb3 hbx2 hu3; obtain ⟨hbx4, ⟨d0, d1, d2, d3, d4⟩, fz0, fz1, fz2, fz3, fz4⟩ := hbx3) | (have hbx3 := zbC3 hE2 hu3; obtain ⟨hbx4, ⟨d0, d1, d2, d3, d4⟩, fz0, fz1, fz2, fz3, fz4⟩ := hbx3) | skip)
        | fail))
      all_goals
        first
          | (obtain ⟨u4, q, hu4, hq, hbox, hq4, hqv⟩ := leafD (at5 x) hq3; rw [← hu4, ← hq])
          | (obtain ⟨u4, q, hu4, hq, hbox, hq4, hqv⟩ := leafS (at5 x) hq3 hbx4 (by first | exact hq2.size | exact hq1.size | exact Nat.le_refl _); rw [← hu4, ← hq])
        clear hu4 hq hq3 hu3 hq2 hq1 hE2 hbW hbP hz2 hvb2 HPO HWE HBE HS hidx hr hcell
        try clear hbx3
        try clear hbx4 d0 d1 d2 d3 d4 fz0 fz1 fz2 fz3 fz4
        have hql := zbLt hbox
        have hxl := wdB_len ps' r hn1
        have HXL : Hid (x.length = M.length) := by show _ = _; rw [← HX2.out, HML.out, HF.out, ← HRF.out]; exact hxl
        have hx0 : Hid (x ≠ []) := by intro e; have := HXL.out; rw [e] at this; simp at this; omega
        have hsl5 := fun b wx => slice5 b M.length hM5.2 wx
        have hbx := ri_box hbox (by have := HXL.out; omega)
        clear hxl
        go_wp2_with fail
        refine (x_CloneN HXL.out hbx (by omega) hx0.out (by omega)).mono ?_
        rintro e u5 ⟨a5, c5, rfl, h5, hb5⟩
        have hs4 := hq4.size
        have hs5 := hb5.size
        have hb05 : Below v0.heap.size v0 u5 := hq4.trans (hb5.mono hs4)
        have ho5 : OIc u5 v0.heap.size u5.heap.size a5 c5 x := h5.wide hs4 (Nat.le_refl _)
        have hO := OII.oneN (t := 22) (c := c5) HXL.out ho5 (by omega) (Nat.le_refl _)
        have hb6 : Below v0.heap.size v0 (u5.alloc (.cells #[.slice a5 M.length c5] 22)) := hb05.alloc (by omega) _
        obtain ⟨A3, C3, G3, hf3, hc3⟩ := Fam.ofOII hO
        have hkl : out.length ≤ 1099511627776 := by omega
        have hlg := Lib.hid ho.lt
        have hbox5 := (Below.heap_alloc u5 (.cells #[.slice a5 M.length c5] 22) q (by omega)).trans ((hb5.block q hql).trans hbox)
        have hopk : Hid (∀ u7, (u5.alloc (.cells #[.slice a5 M.length c5] 22)).grownBy u7 (Value.slice (some ao) out.length co).ownBlock → OwnP u7 Bq (.slice av ps'.length cv) ps') := fun u7 g =>
          hop.kept fun k hk hg => (g.block k (by have := hb6.size; omega) (fun e => hoff.out k hg e.symm)).trans (hb6.block k hk)
        have HPX : Hid (∀ p ∈ ps', p.length = x.length) := fun p hp => by rw [HPR.out p hp, HXL.out, HML.out, HF.out]
        have HOFF := hoff
        clear hbx h5 ho5 hO hbox hb05 hop hoff
        go_wp2_with (first
          | (at_builtin; refine wpList_appLLg (W0 := v0) rfl (.tmp 64) (.tmp 69) rfl w9.heap.size (.slice (some ao) out.length co) out [x] rfl ho hb6 (by omega) ⟨u5.heap.size, 0, none⟩ 1 1 rfl rfl A3 C3 G3 hf3 hc3 hkl (by simp) ?_; intro v7 u7 hown7 hb7 hnn7 g2 g4; obtain ⟨ad7, c7, hv7, _⟩ := hown7.some (hnn7.out (by simp)); subst hv7; have hb11 := (g2.block q (by simp only [World.size_alloc]; omega) (fun e => by have := (hlg.out _ e.symm).2; omega)).trans hbox5; obtain ⟨e0, e1, e2, e3, e4⟩ := cells5' hb11; have hop7 := hopk.out u7 g2)
          | (go_at_call 38; refine (i_unmetR (w0 := u7) (by have := HXL.out; omega) HPX.out hop7 (Below.refl _ _) hpl').mono ?_; rintro e u8 ⟨v8, rfl, hown8, hb8⟩; obtain ⟨a8, c8, rfl, _⟩ := hown8.at)
          | go_in)
        have hlt7 := hown7.lt
        have hlt8 := hown8.lt
        have hs7 := hb7.size
        have hs8 := hb8.size
        have hrs := rstP_le ps' x
        have hown6 := hown7.below hb8
        have hBl6 : Below w9.heap.size w9 u8 := ((hBl.trans (hb6.mono hz0)).trans hb7).trans (hb8.mono (by have := hb6.size; simp only [World.size_alloc] at this hs7; omega))
        have hoff6 : Hid (∀ g, (Value.slice a8 (rstP ps' x).length c8).ownBlock = some g → (Value.slice (some ad7) (out ++ [x]).length c7).ownBlock ≠ some g) := fun g h1 h2 => by
          have := (hlt8 g h1).1; have := (hlt7 g h2).2; omega
        have HI6 : Hid (wdG n (s.take (k + 1)) LF = (out ++ [x], rstP ps' x)) := by show _ = _; rw [HSN.out, HX2.out]
        clear ho hb6 hb7 hb8 hown7 hnn7 g2 g4 hlg hlt7 hlt8 hBl hb11 hopk hop7 hf3 hc3 hbox5 hq4 hb5 hsl5
        go_roundw
        case rel => exact ⟨k + 1, a8, c8, rstP ps' x, out ++ [x], ad7, c7, _, by omega, by go_num, rfl, by simp, hown8, hoff6, hown6, hBl6, HI6⟩
        case measure => simp [intOf]; omega
    · have HT : Hid ((wdG n s LF).1 = out) := by show _ = _; rw [← List.take_of_length_le (show s.length ≤ k by omega), hG.out]
      have HAD : Hid (adL m s n t = gsL M out t ∧ adB m s n t = gsB M out t) := by
        have h := ad_eq HADG.out
        have e : adW m s (n : Int) t = out := by unfold adW; rw [HMe.out, HPE.out, HLF.out, Int.toNat_natCast]; exact HT.out
        rw [e, HMe.out] at h; exact h
      have hoB := (wdG_len n (s.take k) LF).1
      rw [hG.out] at hoB
      have hol : out.length ≤ 20 := by simp at hoB; omega
      have HGO : Hid (∀ r ∈ out, r.length ≤ 9223372036854775807) := fun r hr => by
        obtain ⟨i, hi⟩ := List.mem_iff_getElem?.1 hr
        rw [← HT.out] at hi
        obtain ⟨y, l', h1, h2, rfl⟩ := wdG_row n hn1 s LF i r hi
        have := okW_len (okS_all HOS.out (List.mem_of_getElem? h1))
        simp; omega
      obtain ⟨oa, oc, e1, hO⟩ := ho.slice
      cases e1
      clear hoB hop hoff ho
      go_wp2_with fail
      refine (i_GrowSuite (hM9.below hBl (by omega)) (by omega) hO.oii.rii (by omega) HGO.out _ht0 _ht1 (by omega) (Nat.le_refl _)).mono ?_
      rintro e u4 ⟨ga, gc, rfl, hg4, hb4⟩
      have hb04 := hb09.trans ((hBl.trans (hb4.mono hz0)).mono (by have := hb09.size; omega))
      go_wp2
      go_ret2
      rw [HAD.out.1, HAD.out.2]
      exact ⟨_, _, rfl, ⟨hg4.oii.wide (by have := hb09.size; omega) (Nat.le_refl _), hg4.cap⟩, hb04⟩

end Go.Proofs.Yteoiclkipfdgpaa
