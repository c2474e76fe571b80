/- Walks: lists put together, by the library; a list without one of its numbers. -/
import Derived.Test.YteoiclkipfdgpaaOwnL
import Derived.Test.YteoiclkipfdgpaaWm
import Derived.Lib.AppendZerosOnto
import Derived.Deep.RegionLaw
namespace Go.Proofs.Yteoiclkipfdgpaa
open Go.RowKit

theorem addrAddI (b o k : Nat) : (⟨b, o, none⟩ : Addr).add k = ⟨b, o + k, none⟩ := by unfold Addr.add; split <;> simp_all
/-- the first k parts of two -/
def prtI {α : Type} (x y : List α) (k : Nat) : List α := if k = 0 then [] else if k = 1 then x else x ++ y

theorem elemIe : Program.elem Try.prog 22 = 3 := by kernel_rfl
theorem undIe : Try.prog.underlying 22 = some (.slice (Program.elem Try.prog 22)) := by kernel_rfl
/-- x[:k] of a slice of numbers -/
theorem cutTo {b o n c k : Nat} {z : Int} (hz : z = (k : Int)) (hk : k ≤ c) (wx : World) : (Instr.slice 22 (.slice (some ⟨b, o, none⟩) n c) none (some (.int .i64 z)) none).run Try.prog wx = .ok (.slice (some ⟨b, o, none⟩) k c) wx := by
  subst hz
  rw [run_slice_h (P := Try.prog) (w := wx) 22 (some ⟨b, o, none⟩) n c undIe .i64 (k : Int) (by omega) (by omega)]
  have hs := sizeInt wx
  rw [elemIe]
  simp [hs, Result.andThen, sliced, Addr.add]
/-- x[k:] -/
theorem cutFrom {b o n c k : Nat} {z : Int} (hz : z = (k : Int)) (hk : k ≤ n) (hn : n ≤ c) : ∃ o', (k < n → o' = o + k) ∧ ∀ wx : World, (Instr.slice 22 (.slice (some ⟨b, o, none⟩) n c) (some (.int .i64 z)) none none).run Try.prog wx = .ok (.slice (some ⟨b, o', none⟩) (n - k) (c - k)) wx := by
  subst hz
  refine ⟨if c = k then o else o + k, fun h => by rw [if_neg (by omega)], fun wx => ?_⟩
  rw [run_slice_l (P := Try.prog) (w := wx) 22 (some ⟨b, o, none⟩) n c undIe .i64 (k : Int) (by omega) (by omega)]
  have hs := sizeInt wx
  rw [elemIe]
  simp only [hs, Result.andThen, sliced, Int.toNat_natCast, Nat.mul_one, Option.map_some, addrAddI]
  split <;> rfl
theorem RI.takeI {w : World} {lo hi : Nat} {a : Option Addr} {m : List Int} (h : RI w lo hi a m) (k : Nat) : RI w lo hi a (m.take k) := by
  intro j hj
  simp at hj
  obtain ⟨b, o, h1, h2, h3, x, h4, h5⟩ := h j (by omega)
  exact ⟨b, o, h1, h2, h3, x, by rw [List.getElem?_take_of_lt (by omega)]; exact h4, h5⟩
theorem RI.dropI {w : World} {lo hi b o o' : Nat} {m : List Int} (h : RI w lo hi (some ⟨b, o, none⟩) m) {k : Nat} (ho : k < m.length → o' = o + k) : RI w lo hi (some ⟨b, o', none⟩) (m.drop k) := by
  intro j hj
  simp at hj
  obtain ⟨b1, o1, h1, h2, h3, x, h4, h5⟩ := h (k + j) (by omega)
  cases h1
  rw [ho (by omega)]
  exact ⟨b, o + k, rfl, h2, h3, x, by rw [List.getElem?_drop]; exact h4, by rw [Nat.add_assoc]; exact h5⟩

theorem run_growI {n : Nat} (h0 : 0 < n) (hn : n ≤ 1048576) (ty : TypeId) (w : World) : ∃ (G : Nat) (cs : Array Value), n ≤ G ∧ G ≤ maxLen ∧ cs.size = G ∧ (Builtin.append_ #[22, 3] ty #[.slice none 0 0, .int .i64 (n : Int)]).run Try.prog w = .ok (.slice (some ⟨w.heap.size, 0, none⟩) n G) (w.drew.alloc (.cells cs 3)) := by
  obtain ⟨i0, hi, hz0, hz1, hz2⟩ := info_parts infoInt
  have h := Lib.run_append_grow_zeros (P := Try.prog) w 22 3 ty 3 i0 (.int .i64 0) .i64 .i64 undI undInt hi hz0 none 0 0 [] (run_firstCells_none _ _ _ _ _) n h0 (by omega) (by omega) (by omega) (by rw [hz2]; omega) (by rw [hz2]; exact growslice_fits (by omega) (by omega))
  rw [Nat.zero_add] at h
  have hge := grownCap_ge w n 0 3
  refine ⟨_, _, hge, grownCap_le_maxLen w n 0 _ (by unfold maxLen; omega), ?_, h⟩
  simp [Builtin.zeroCells, Value.cells]
  omega

set_option maxRecDepth 100000 in
set_option maxHeartbeats 2000000 in
theorem x_GrowI {n : Nat} {w : World} (hn : n ≤ 1048576) :
    Calls Try.prog 58 #[.slice none 0 0, .int .i64 (n : Int)] w (fun e w' => ∃ a c, e = .returned (.slice a 0 c) ∧ OwnL w' w.heap.size (.slice a 0 c) [] ∧ Below w.heap.size w w') := by
  by_cases h0 : n = 0
  · subst h0
    go_enter Try.func58, Try.ntmps58
    go_wp2
    go_ret
    exact ⟨none, 0, rfl, OwnL.nil _ _, Below.refl _ _⟩
  have hpos : 0 < (n : Int) := by omega
  obtain ⟨G, cs, hG, hG2, hcs, hrz⟩ := run_growI (by omega) hn 22 w
  have hG3 : G ≤ 9223372036854775807 := by unfold maxLen at hG2; omega
  have HO : Hid (OwnL (w.drew.alloc (.cells cs 3)) w.heap.size (.slice (some ⟨w.heap.size, 0, none⟩) 0 G) []) :=
    World.ownsRow_made w.drew cs G (Nat.le_refl w.heap.size) hG2 (by rw [hcs, Nat.mul_one])
  have HB : Hid (Below w.heap.size w (w.drew.alloc (.cells cs 3))) := ((Below.refl w.heap.size w).drew).alloc (Nat.le_refl w.heap.size) _
  clear hcs hG2
  go_enter Try.func58, Try.ntmps58
  go_wp2_with (at_builtin; refine Lib.wpList_append_run _ rfl _ _ _ _ rfl _ _ rfl rfl _ _ hrz ?_)
  go_ret
  exact ⟨_, _, rfl, HO.out, HB.out⟩

set_option maxRecDepth 100000 in
set_option maxHeartbeats 4000000 in
theorem x_ConcatI {b n1 n2 c1 c2 lo hi : Nat} {ad1 ad2 : Addr} {mm1 mm2 : List Int} {w : World} (e1 : w.cell? ⟨b, 0, none⟩ = some (.slice (some ad1) n1 c1)) (e2 : w.cell? ⟨b, 1, none⟩ = some (.slice (some ad2) n2 c2)) (hb : b < w.heap.size) (hn1 : n1 = mm1.length) (hn2 : n2 = mm2.length)
    (h1 : RI w lo hi (some ad1) mm1) (h2 : RI w lo hi (some ad2) mm2) (hhi : hi ≤ w.heap.size) (hl1 : n1 ≤ 500000) (hl2 : n2 ≤ 500000) :
    Calls Try.prog 27 #[.slice (some ⟨b, 0, none⟩) 2 2] w (NewI w (mm1 ++ mm2)) := by
  subst hn1 hn2
  have hi0 : ∀ wx : World, (Instr.indexAt 23 (.slice (some ⟨b, 0, none⟩) 2 2) (.int .i64 0)).run Try.prog wx = .ok (.pointer (some ⟨b, 0, none⟩)) wx := fun wx => idxII (k := 0) rfl (by omega) 2 wx
  have hi1 : ∀ wx : World, (Instr.indexAt 23 (.slice (some ⟨b, 0, none⟩) 2 2) (.int .i64 1)).run Try.prog wx = .ok (.pointer (some ⟨b, 1, none⟩)) wx := fun wx => idxII (k := 1) rfl (by omega) 2 wx
  go_enter Try.func27, Try.ntmps27
  go_wp2
  go_loop [3, 11] (fun v i => (i = .int .i64 0 ∧ v = .int .i64 0) ∨ (i = .int .i64 1 ∧ v = .int .i64 (mm1.length : Int)) ∨ (i = .int .i64 2 ∧ v = .int .i64 ((mm1.length + mm2.length : Nat) : Int))) (fun _ i => 2 - (intOf i).toNat)
  case atStart => exact .inl ⟨rfl, rfl⟩
  case round =>
    rcases hrel with ⟨rfl, rfl⟩ | ⟨rfl, rfl⟩ | ⟨rfl, rfl⟩
    · go_wp2
      go_round
      case rel => exact .inr (.inl ⟨rfl, rfl⟩)
      case measure => simp [intOf]
    · go_wp2
      go_round
      case rel => exact .inr (.inr ⟨rfl, by go_num⟩)
      case measure => simp [intOf]
    · obtain ⟨N, hN⟩ : ∃ N, mm1.length + mm2.length = N := ⟨_, rfl⟩
      have hNl : N ≤ 1048576 := by omega
      rw [hN]
      clear hN
      go_wp2_with fail
      refine (x_GrowI hNl).mono ?_
      rintro e w1 ⟨a1, c1', rfl, hst, hb1⟩
      have hs1 := hb1.size
      have f1 := h1.below hb1 hhi
      have f2 := h2.below hb1 hhi
      have g1 := (hb1.cell (p := ⟨b, 0, none⟩) hb).trans e1
      have g2 := (hb1.cell (p := ⟨b, 1, none⟩) hb).trans e2
      clear e1 e2 h1 h2
      go_wp2
      go_loopw [6, 27] (fun v i wr => OwnL wr w.heap.size v (prtI mm1 mm2 (intOf i).toNat) ∧ Below w.heap.size w wr ∧ RI wr lo hi (some ad1) mm1 ∧ RI wr lo hi (some ad2) mm2 ∧ wr.cell? ⟨b, 0, none⟩ = some (.slice (some ad1) mm1.length c1) ∧ wr.cell? ⟨b, 1, none⟩ = some (.slice (some ad2) mm2.length c2) ∧ (i = .int .i64 0 ∨ i = .int .i64 1 ∨ i = .int .i64 2)) (fun _ i _ => 2 - (intOf i).toNat)
      case atStart => exact ⟨by simpa [prtI, intOf] using hst, hb1, f1, f2, g1, g2, .inl rfl⟩
      case round =>
        clear hst f1 f2 g1 g2
        obtain ⟨hown, hK, f1, f2, g1, g2, hi'⟩ := hrel
        have hsz := hK.size
        rcases hi' with rfl | rfl | rfl
        · have hown0 : OwnL wr w.heap.size _ [] := hown
          have HP : Hid (prtI mm1 mm2 1 = mm1) := by simp [Hid, prtI]
          clear hown
          go_wp2_with (first
            | (at_builtin; refine wpList_appS rfl _ _ rfl w.heap.size _ [] rfl hown0 mm1 lo hi c1 ad1 rfl f1 (by simp) (by omega) (by omega) ?_; intro v2 w2 hown2 hk2)
            | go_in)
          have HO : Hid (OwnL w2 w.heap.size v2 (prtI mm1 mm2 1)) := by show OwnL _ _ _ _; rw [HP.out]; exact hown2
          have hK2 := hK.trans hk2
          have f1' := f1.below hk2 hhi
          have f2' := f2.below hk2 hhi
          have g1' := (hk2.cell (p := ⟨b, 0, none⟩) hb).trans g1
          have g2' := (hk2.cell (p := ⟨b, 1, none⟩) hb).trans g2
          clear hown2 hk2 hK hown0
          go_roundw
          case rel => exact ⟨HO.out, hK2, f1', f2', g1', g2', .inr (.inl rfl)⟩
          case measure => simp [intOf]
        · have hown0 : OwnL wr w.heap.size _ mm1 := hown
          have HP : Hid (prtI mm1 mm2 2 = mm1 ++ mm2) := by simp [Hid, prtI]
          clear hown
          go_wp2_with (first
            | (at_builtin; refine wpList_appS rfl _ _ rfl w.heap.size _ mm1 rfl hown0 mm2 lo hi c2 ad2 rfl f2 (by omega) (by omega) (by omega) ?_; intro v2 w2 hown2 hk2)
            | go_in)
          have HO : Hid (OwnL w2 w.heap.size v2 (prtI mm1 mm2 2)) := by show OwnL _ _ _ _; rw [HP.out]; exact hown2
          have hK2 := hK.trans hk2
          have f1' := f1.below hk2 hhi
          have f2' := f2.below hk2 hhi
          have g1' := (hk2.cell (p := ⟨b, 0, none⟩) hb).trans g1
          have g2' := (hk2.cell (p := ⟨b, 1, none⟩) hb).trans g2
          clear hown2 hk2 hK hown0
          go_roundw
          case rel => exact ⟨HO.out, hK2, f1', f2', g1', g2', .inr (.inr rfl)⟩
          case measure => simp [intOf]
        · have hown0 : OwnL wr w.heap.size _ (mm1 ++ mm2) := hown
          obtain ⟨a5, c5, rfl, h5⟩ := hown0.slice
          go_wp2
          go_ret
          exact ⟨_, _, rfl, h5, hK⟩

set_option maxRecDepth 100000 in
set_option maxHeartbeats 2000000 in
theorem i_withoutI {s : List Int} {a : Option Addr} {c lo hi k : Nat} {w : World} (hs : RI w lo hi a s) (hB : hi ≤ w.heap.size) (hsl : s.length ≤ 100000) (hc : s.length ≤ c) (hk : k < s.length) :
    Calls Try.prog 49 #[.slice a s.length c, .int .i64 (k : Int)] w (NewI w (s.eraseIdx k)) := by
  obtain ⟨b, o, x0, ha, hlo, hhi, _⟩ := hs.at hk
  subst ha
  have hto := cutTo (b := b) (o := o) (n := s.length) (c := c) (k := k) (z := (k : Int)) rfl (by omega)
  obtain ⟨o', ho', hfrom⟩ := cutFrom (b := b) (o := o) (n := s.length) (c := c) (k := k + 1) (z := IntKind.i64.wrap ((k : Int) + 1)) (by rw [IntWalk.i64_in _ (by omega)]; omega) (by omega) hc
  have hbA := (Below.refl _ w).alloc (Nat.le_refl w.heap.size) (.cells #[.slice (some ⟨b, o, none⟩) k c, .slice (some ⟨b, o', none⟩) (s.length - (k + 1)) (c - (k + 1))] 22)
  have hs1 := hs.below hbA hB
  have HE : Hid (s.eraseIdx k = s.take k ++ s.drop (k + 1)) := List.eraseIdx_eq_take_drop_succ ..
  have hn := heap_alloc_new w (.cells #[.slice (some ⟨b, o, none⟩) k c, .slice (some ⟨b, o', none⟩) (s.length - (k + 1)) (c - (k + 1))] 22)
  obtain ⟨W, hW⟩ : ∃ W, w.alloc (.cells #[.slice (some ⟨b, o, none⟩) k c, .slice (some ⟨b, o', none⟩) (s.length - (k + 1)) (c - (k + 1))] 22) = W := ⟨_, rfl⟩
  have e1 : W.cell? ⟨w.heap.size, 0, none⟩ = some (.slice (some ⟨b, o, none⟩) k c) := by rw [← hW, cell_of_row _ w.heap.size 0 _ 22 (0, 0) hn]; rfl
  have e2 : W.cell? ⟨w.heap.size, 1, none⟩ = some (.slice (some ⟨b, o', none⟩) (s.length - (k + 1)) (c - (k + 1))) := by rw [← hW, cell_of_row _ w.heap.size 1 _ 22 (0, 0) hn]; rfl
  have hWs : w.heap.size < W.heap.size := by rw [← hW]; simp
  rw [hW] at hbA hs1
  have f1 := hs1.takeI k
  have f2 := hs1.dropI ho'
  have hcat := (x_ConcatI (w := W.drew) e1 e2 hWs (by simp; omega) (by simp) f1 f2 (by show hi ≤ W.heap.size; omega) (by omega) (by omega))
  obtain ⟨l, hl⟩ : ∃ l, s.eraseIdx k = l := ⟨_, rfl⟩
  rw [← HE.out, hl] at hcat
  rw [hl]
  have HCAT := Lib.hid hcat
  clear hcat hl HE
  clear hn f1 f2 hs1 e1 e2 hs ho'
  go_enter Try.func49, Try.ntmps49
  go_wp2_with fail
  go_region_with ((go_at_call 27; refine HCAT.out.mono ?_; rintro e w1 ⟨a1, c1, rfl, h1, hb1⟩))
  have hsW : w.heap.size ≤ W.heap.size := by omega
  have hbb : Below w.heap.size w w1 := hbA.trans (((Below.refl _ W).drew).trans (hb1.mono hsW))
  clear hb1 hbA HCAT
  go_wp2
  go_ret
  exact ⟨_, _, rfl, ⟨h1.oi.wide hsW (Nat.le_refl _), h1.cap⟩, hbb⟩

/- Appending a row to a row of one's own, in a region that draws its order. -/
open Go.RowKit

theorem run_appSg {wr : World} (ty : TypeId) (B : Nat) (v : Value) (l : List Int) (hown : OwnL wr B v l) (k : List Int) (lo hi c : Nat) (ad : Addr) (hk : RI wr lo hi (some ad) k) (hl : l.length ≤ 1099511627776) (hkl : k.length ≤ 1099511627776) (hB : B ≤ wr.heap.size) :
    ∃ v' w', (Builtin.append_ #[22, 22] ty #[v, .slice (some ad) k.length c]).run Try.prog wr = .ok v' w' ∧ OwnL w' B v' (l ++ k) ∧ Below B wr w' ∧ wr.grownBy w' v.ownBlock := by
  obtain ⟨i0, hi0, hz0, hz1, hz2⟩ := info_parts infoInt
  obtain ⟨v', w', hr, g1, g2, _⟩ := run_append_own_at (P := Try.prog) wr B 22 ty 3 i0 (.int .i64 0) 1 8 undI hi0 hz0 hz1 hz2 rfl (by decide) v l.length (ints l) hown ad k.length c (ints k) (by rw [ints_len, Nat.mul_one])
    (fun j u hu => by
      simp only [ints, List.getElem?_map, Option.map_eq_some_iff] at hu
      obtain ⟨x, hx, rfl⟩ := hu
      obtain ⟨b', o', e1, _, _, x', e4, e5⟩ := hk j (lt_of_at hx)
      cases e1
      rw [hx] at e4
      cases e4
      rw [addrAddI]; exact e5)
    (ints_one k) (by unfold maxLen; omega) (by omega) hB
  exact ⟨v', w', hr, by unfold OwnL; rw [ints_app, List.length_append]; exact g1, (Below.refl B wr).grown g2 hB fun k hk => ((World.ownsRow.lt hown) k hk).1, g2⟩
theorem step_appSg {wr : World} {ops : Array Oper} {o : Oper} {a : Act} {K : Act → World → Prop} {Q : Exit → Act → World → Prop} {E : Prop} (hgd : o.guard = none) (s t : Operand)
    (ho : o.op = .call { callee := .builtin .append, args := #[s, t], argTypes := #[22, 22] }) (B : Nat) (v : Value) (l : List Int) (hs : a.eval s = v) (hown : OwnL wr B v l) (k : List Int) (lo hi c n : Nat) (ad : Addr) (hn : n = k.length)
    (hx : a.eval t = .slice (some ad) n c) (hk : RI wr lo hi (some ad) k) (hl : l.length ≤ 1099511627776) (hkl : k.length ≤ 1099511627776) (hB : B ≤ wr.heap.size)
    (h : ∀ v' w', OwnL w' B v' (l ++ k) → Below B wr w' → wr.grownBy w' v.ownBlock → K (a.put o.dst v') w') : if Region.wanted o (yielded ops a.tmps) = true then Oper.wp Try.prog o a wr K Q else E := by
  subst hn
  have hw : Region.wanted o (yielded ops a.tmps) = true := by simp [Region.wanted, hgd]
  rw [if_pos hw]
  obtain ⟨v', w', hr, h1, h2, h3⟩ := run_appSg o.type B v l hown k lo hi c ad hk hl hkl hB
  unfold Oper.wp execOp
  simp only [ho, resolve, invoke, builtin, Sem.run_bind, Sem.run_pure, Result.andThen_ok, List.map_toArray, List.map_cons, List.map_nil, hs, hx, hr]
  exact h v' w' h1 h2 h3

end Go.Proofs.Yteoiclkipfdgpaa
