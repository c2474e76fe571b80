/- Walks: a list and one number more, put together (slices.Concat); the closure of AddFactor. -/
import Derived.Test.YteoiclkipfdgpaaYl
import Derived.Test.YteoiclkipfdgpaaWf
namespace Go.Proofs.Yteoiclkipfdgpaa
open Go.RowKit

theorem run_growO {n : Nat} (h0 : 0 < n) (hn : n ≤ 2097152) (ty : TypeId) (w : World) : ∃ (G : Nat) (cs : Array Value), n ≤ G ∧ G ≤ maxLen ∧ cs.size = G ∧ (Builtin.append_ #[22, 3] ty #[.slice none 0 0, .int .i64 (n : Int)]).run Try.prog w = .ok (.slice (some ⟨w.heap.size, 0, none⟩) n G) (w.drew.alloc (.cells cs 3)) := by
  obtain ⟨i0, hi, hz0, hz1, hz2⟩ := info_parts infoInt
  have h := Lib.run_append_grow_zeros (P := Try.prog) w 22 3 ty 3 i0 (.int .i64 0) .i64 .i64 undI undInt hi hz0 none 0 0 [] (run_firstCells_none _ _ _ _ _) n h0 (by omega) (by omega) (by omega) (by rw [hz2]; omega) (by rw [hz2]; exact growslice_fits (by omega) (by omega))
  rw [Nat.zero_add] at h
  have hge := grownCap_ge w n 0 3
  refine ⟨_, _, hge, grownCap_le_maxLen w n 0 _ (by unfold maxLen; omega), ?_, h⟩
  simp [Builtin.zeroCells, Value.cells]
  omega

set_option maxRecDepth 100000 in
set_option maxHeartbeats 2000000 in
theorem x_GrowO {n : Nat} {w : World} (hn : n ≤ 2097152) :
    Calls Try.prog 58 #[.slice none 0 0, .int .i64 (n : Int)] w (fun e w' => ∃ a c, e = .returned (.slice a 0 c) ∧ OwnL w' w.heap.size (.slice a 0 c) [] ∧ Below w.heap.size w w') := by
  by_cases h0 : n = 0
  · subst h0
    go_enter Try.func58, Try.ntmps58
    go_wp2
    go_ret
    exact ⟨none, 0, rfl, OwnL.nil _ _, Below.refl _ _⟩
  have hpos : 0 < (n : Int) := by omega
  obtain ⟨G, cs, hG, hG2, hcs, hrz⟩ := run_growO (by omega) hn 22 w
  have hG3 : G ≤ 9223372036854775807 := by unfold maxLen at hG2; omega
  have HO : Hid (OwnL (w.drew.alloc (.cells cs 3)) w.heap.size (.slice (some ⟨w.heap.size, 0, none⟩) 0 G) []) :=
    World.ownsRow_made w.drew cs G (Nat.le_refl w.heap.size) hG2 (by rw [hcs, Nat.mul_one])
  have HB : Hid (Below w.heap.size w (w.drew.alloc (.cells cs 3))) := ((Below.refl w.heap.size w).drew).alloc (Nat.le_refl w.heap.size) _
  clear hcs hG2
  go_enter Try.func58, Try.ntmps58
  go_wp2_with (at_builtin; refine Lib.wpList_append_run _ rfl _ _ _ _ rfl _ _ rfl rfl _ _ hrz ?_)
  go_ret
  exact ⟨_, _, rfl, HO.out, HB.out⟩

/-- append of nothing from the nil slice -/
theorem run_app_noneO {w : World} (ty : TypeId) (B : Nat) (v : Value) (l : List Int) (c : Nat) (hown : OwnL w B v l) : (Builtin.append_ #[22, 22] ty #[v, .slice none 0 c]).run Try.prog w = .ok v w := by
  obtain ⟨i0, hi, hz0, hz1, hz2⟩ := info_parts infoInt
  rcases hown.2 with ⟨rfl, h0⟩ | ⟨g, cap, cur, rfl, hb, hg, hn, hm, hs, ht⟩
  · simp [Builtin.append_, run_underlying undI, sizeOf, typeInfo, hi, Builtin.lenOf, Builtin.firstCells]
  · simp [Builtin.append_, run_underlying undI, sizeOf, typeInfo, hi, Builtin.lenOf, Builtin.firstCells, storeCells, Result.andThen, hn]
/-- append of a list, wherever it lies -/
theorem wpList_appO {wr : World} {ops : Array Oper} {rest : List Oper} {o : Oper} {a : Act} {Q : Exit → Act → World → Prop} (hgd : o.guard = none) (s t : Operand)
    (ho : o.op = .call { callee := .builtin .append, args := #[s, t], argTypes := #[22, 22] }) (B : Nat) (v : Value) (l : List Int) (hs : a.eval s = v) (hown : OwnL wr B v l) (k : List Int) (lo hi c : Nat) (a' : Option Addr)
    (hx : a.eval t = .slice a' k.length c) (hk : RI wr lo hi a' k) (hl : l.length ≤ 1099511627776) (hkl : k.length ≤ 1099511627776) (hB : B ≤ wr.heap.size)
    (h : ∀ v' w', OwnL w' B v' (l ++ k) → Below B wr w' → wpList Try.prog ops Q rest (a.put o.dst v') w') : wpList Try.prog ops Q (o :: rest) a wr := by
  cases a' with
  | some ad => exact wpList_appS hgd s t ho B v l hs hown k lo hi c ad hx hk hl hkl hB h
  | none =>
    have hk0 : k = [] := by
      cases k with
      | nil => rfl
      | cons x k => obtain ⟨b, o, e, _⟩ := hk 0 (by simp); cases e
    subst hk0
    have hr := run_app_noneO o.type B v l c hown
    refine Lib.wpList_append_run _ hgd s t 22 22 ho v (.slice none 0 c) hs hx v wr hr (h v wr (by simpa using hown) (Below.refl _ _))

set_option maxRecDepth 100000 in
set_option maxHeartbeats 4000000 in
theorem x_ConcatO {b n1 n2 c1 c2 lo hi : Nat} {ad1 : Option Addr} {ad2 : Addr} {mm1 mm2 : List Int} {w : World} (e1 : w.cell? ⟨b, 0, none⟩ = some (.slice ad1 n1 c1)) (e2 : w.cell? ⟨b, 1, none⟩ = some (.slice (some ad2) n2 c2)) (hb : b < w.heap.size) (hn1 : n1 = mm1.length) (hn2 : n2 = mm2.length)
    (h1 : RI w lo hi ad1 mm1) (h2 : RI w lo hi (some ad2) mm2) (hhi : hi ≤ w.heap.size) (hl1 : n1 ≤ 1048576) (hl2 : n2 ≤ 1048576) :
    Calls Try.prog 27 #[.slice (some ⟨b, 0, none⟩) 2 2] w (NewI w (mm1 ++ mm2)) := by
  subst hn1 hn2
  have hi0 : ∀ wx : World, (Instr.indexAt 23 (.slice (some ⟨b, 0, none⟩) 2 2) (.int .i64 0)).run Try.prog wx = .ok (.pointer (some ⟨b, 0, none⟩)) wx := fun wx => idxII (k := 0) rfl (by omega) 2 wx
  have hi1 : ∀ wx : World, (Instr.indexAt 23 (.slice (some ⟨b, 0, none⟩) 2 2) (.int .i64 1)).run Try.prog wx = .ok (.pointer (some ⟨b, 1, none⟩)) wx := fun wx => idxII (k := 1) rfl (by omega) 2 wx
  go_enter Try.func27, Try.ntmps27
  go_wp2
  go_loop [3, 11] (fun v i => (i = .int .i64 0 ∧ v = .int .i64 0) ∨ (i = .int .i64 1 ∧ v = .int .i64 (mm1.length : Int)) ∨ (i = .int .i64 2 ∧ v = .int .i64 ((mm1.length + mm2.length : Nat) : Int))) (fun _ i => 2 - (intOf i).toNat)
  case atStart => exact .inl ⟨rfl, rfl⟩
  case round =>
    rcases hrel with ⟨rfl, rfl⟩ | ⟨rfl, rfl⟩ | ⟨rfl, rfl⟩
    · go_wp2
      go_round
      case rel => exact .inr (.inl ⟨rfl, rfl⟩)
      case measure => simp [intOf]
    · go_wp2
      go_round
      case rel => exact .inr (.inr ⟨rfl, by go_num⟩)
      case measure => simp [intOf]
    · obtain ⟨N, hN⟩ : ∃ N, mm1.length + mm2.length = N := ⟨_, rfl⟩
      have hNl : N ≤ 2097152 := by omega
      rw [hN]
      clear hN
      go_wp2_with fail
      refine (x_GrowO hNl).mono ?_
      rintro e w1 ⟨a1, c1', rfl, hst, hb1⟩
      have hs1 := hb1.size
      have f1 := h1.below hb1 hhi
      have f2 := h2.below hb1 hhi
      have g1 := (hb1.cell (p := ⟨b, 0, none⟩) hb).trans e1
      have g2 := (hb1.cell (p := ⟨b, 1, none⟩) hb).trans e2
      clear e1 e2 h1 h2
      go_wp2
      go_loopw [6, 27] (fun v i wr => OwnL wr w.heap.size v (prtI mm1 mm2 (intOf i).toNat) ∧ Below w.heap.size w wr ∧ RI wr lo hi ad1 mm1 ∧ RI wr lo hi (some ad2) mm2 ∧ wr.cell? ⟨b, 0, none⟩ = some (.slice ad1 mm1.length c1) ∧ wr.cell? ⟨b, 1, none⟩ = some (.slice (some ad2) mm2.length c2) ∧ (i = .int .i64 0 ∨ i = .int .i64 1 ∨ i = .int .i64 2)) (fun _ i _ => 2 - (intOf i).toNat)
      case atStart => exact ⟨by simpa [prtI, intOf] using hst, hb1, f1, f2, g1, g2, .inl rfl⟩
      case round =>
        clear hst f1 f2 g1 g2
        obtain ⟨hown, hK, f1, f2, g1, g2, hi'⟩ := hrel
        have hsz := hK.size
        rcases hi' with rfl | rfl | rfl
        · have hown0 : OwnL wr w.heap.size _ [] := hown
          have HP : Hid (prtI mm1 mm2 1 = mm1) := by simp [Hid, prtI]
          clear hown
          go_wp2_with (first
            | (at_builtin; refine wpList_appO rfl _ _ rfl w.heap.size _ [] rfl hown0 mm1 lo hi c1 ad1 rfl f1 (by simp) (by omega) (by omega) ?_; intro v2 w2 hown2 hk2)
            | go_in)
          have HO : Hid (OwnL w2 w.heap.size v2 (prtI mm1 mm2 1)) := by show OwnL _ _ _ _; rw [HP.out]; exact hown2
          have hK2 := hK.trans hk2
          have f1' := f1.below hk2 hhi
          have f2' := f2.below hk2 hhi
          have g1' := (hk2.cell (p := ⟨b, 0, none⟩) hb).trans g1
          have g2' := (hk2.cell (p := ⟨b, 1, none⟩) hb).trans g2
          clear hown2 hk2 hK hown0
          go_roundw
          case rel => exact ⟨HO.out, hK2, f1', f2', g1', g2', .inr (.inl rfl)⟩
          case measure => simp [intOf]
        · have hown0 : OwnL wr w.heap.size _ mm1 := hown
          have HP : Hid (prtI mm1 mm2 2 = mm1 ++ mm2) := by simp [Hid, prtI]
          clear hown
          go_wp2_with (first
            | (at_builtin; refine wpList_appS rfl _ _ rfl w.heap.size _ mm1 rfl hown0 mm2 lo hi c2 ad2 rfl f2 (by omega) (by omega) (by omega) ?_; intro v2 w2 hown2 hk2)
            | go_in)
          have HO : Hid (OwnL w2 w.heap.size v2 (prtI mm1 mm2 2)) := by show OwnL _ _ _ _; rw [HP.out]; exact hown2
          have hK2 := hK.trans hk2
          have f1' := f1.below hk2 hhi
          have f2' := f2.below hk2 hhi
          have g1' := (hk2.cell (p := ⟨b, 0, none⟩) hb).trans g1
          have g2' := (hk2.cell (p := ⟨b, 1, none⟩) hb).trans g2
          clear hown2 hk2 hK hown0
          go_roundw
          case rel => exact ⟨HO.out, hK2, f1', f2', g1', g2', .inr (.inr rfl)⟩
          case measure => simp [intOf]
        · have hown0 : OwnL wr w.heap.size _ (mm1 ++ mm2) := hown
          obtain ⟨a5, c5, rfl, h5⟩ := hown0.slice
          go_wp2
          go_ret
          exact ⟨_, _, rfl, h5, hK⟩

set_option maxRecDepth 100000 in

theorem i_AddFactor1 {l : List Int} {b f : Nat} {w : World} (hf : f < 5) (hb : w.cell? ⟨b, 0, none⟩ = some (.int .i64 f)) :
    Calls Try.prog 33 #[.agg #[.int .i64 (at5 l 0), .int .i64 (at5 l 1), .int .i64 (at5 l 2), .int .i64 (at5 l 3), .int .i64 (at5 l 4)], .pointer (some ⟨b, 0, none⟩)] w (NewV w (.bool (at5 l f == -1))) := by
  have hlt : b < w.heap.size := by
    refine Classical.byContradiction fun h => ?_
    have : w.heap[b]? = none := Array.getElem?_eq_none (by omega)
    simp [World.cell?, this] at hb
  have hbA := (Below.refl w.heap.size w).alloc (Nat.le_refl _) (.cells #[.int .i64 (at5 l 0), .int .i64 (at5 l 1), .int .i64 (at5 l 2), .int .i64 (at5 l 3), .int .i64 (at5 l 4)] 50)
  have hcb := (hbA.cell (p := ⟨b, 0, none⟩) hlt).trans hb
  have hidx := idxAt5 w.heap.size hf
  have hcT := cell5 (heap_alloc_new w (.cells #[.int .i64 (at5 l 0), .int .i64 (at5 l 1), .int .i64 (at5 l 2), .int .i64 (at5 l 3), .int .i64 (at5 l 4)] 50)) hf
  go_enter Try.func33, Try.ntmps33
  go_wp2
  go_ret
  exact ⟨rfl, hbA⟩

end Go.Proofs.Yteoiclkipfdgpaa
