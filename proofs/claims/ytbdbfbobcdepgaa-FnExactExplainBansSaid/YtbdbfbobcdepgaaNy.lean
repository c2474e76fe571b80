/- Walks: slices.Concat of bans; a list of bans without one of them. -/
import Derived.Test.YtbdbfbobcdepgaaZb
import Derived.Test.YtbdbfbobcdepgaaYl
namespace Go.Proofs.Ytbdbfbobcdepgaa
open Go.RowKit

/-- bans that can be read at block b from place o on -/
def RBn (w : World) (lo hi b o : Nat) (ps : List (List Int)) : Prop := ps ≠ [] → lo ≤ b ∧ b < hi ∧ ∀ (j : Nat) (u : Value), (ps.flatMap csB)[j]? = some u → w.cell? ⟨b, o + j, none⟩ = some u
theorem RBn.below {w w' : World} {lo hi b o B : Nat} {ps : List (List Int)} (h : RBn w lo hi b o ps) (hb : Below B w w') (hB : hi ≤ B) : RBn w' lo hi b o ps := by
  intro h0
  obtain ⟨h1, h2, h3⟩ := h h0
  exact ⟨h1, h2, fun j u hu => (hb.cell (p := ⟨b, o + j, none⟩) (by show b < B; omega)).trans (h3 j u hu)⟩
theorem csB_len (ps : List (List Int)) : (ps.flatMap csB).length = ps.length * 10 := by
  induction ps with
  | nil => rfl
  | cons p ps ih => rw [List.flatMap_cons, List.length_append, ih, List.length_cons]; show 10 + _ = _; omega
theorem csB_one (ps : List (List Int)) : ∀ u ∈ ps.flatMap csB, u.oneCell' = true := by
  intro u hu
  obtain ⟨l, _, hu⟩ := List.mem_flatMap.1 hu
  simp [csB] at hu
  rcases hu with rfl | rfl | rfl | rfl | rfl | rfl | rfl | rfl | rfl | rfl <;> rfl
theorem undBB : Try.prog.underlying 148 = some (.slice 90) := by kernel_rfl
theorem sizeBB (w : World) : (sizeOf 90).run Try.prog w = .ok 1 w := by kernel_rfl
theorem idxBB {b k : Nat} (hk : k < 2) (wx : World) : (Instr.indexAt 148 (.slice (some ⟨b, 0, none⟩) 2 2) (.int .i64 (k : Int))).run Try.prog wx = .ok (.pointer (some ⟨b, k, none⟩)) wx := by
  have h1 := sizeBB wx
  simp [Instr.indexAt, run_underlying undBB, asIntOf, hk, Addr.add]
  try omega
theorem run_appBnN {wr : World} (ty : TypeId) (B : Nat) (v : Value) (ps : List (List Int)) (hown : OwnBn wr B v ps) (qs : List (List Int)) (lo hi b o c : Nat) (hq : RBn wr lo hi b o qs) (hl : ps.length ≤ 1048576) (hql : qs.length ≤ 1048576) (hB : B ≤ wr.heap.size) :
    ∃ v' w', (Builtin.append_ #[90, 90] ty #[v, .slice (some ⟨b, o, none⟩) qs.length c]).run Try.prog wr = .ok v' w' ∧ OwnBn w' B v' (ps ++ qs) ∧ Below B wr w' := by
  obtain ⟨i0, hi0, hz0, hz1, hz2⟩ := info_parts infoBan2
  obtain ⟨v', w', hr, g1, g2, _⟩ := run_append_own_at (P := Try.prog) wr B 90 ty 96 i0 _ 10 48 undBans hi0 hz0 hz1 hz2 rfl (by decide) v ps.length (ps.flatMap csB) hown ⟨b, o, none⟩ qs.length c (qs.flatMap csB) (csB_len qs)
    (fun j u hu => by
      have h0 : qs ≠ [] := by rintro rfl; simp at hu
      rw [addrAddI]
      exact (hq h0).2.2 j u hu)
    (csB_one qs) (by unfold maxLen; omega) (by omega) hB
  exact ⟨v', w', hr, by unfold OwnBn; rw [List.flatMap_append, List.length_append]; exact g1, (Below.refl B wr).grown g2 hB fun k hk => (hown.lt k hk).1⟩
theorem wpList_appBnN {wr : World} {ops : Array Oper} {rest : List Oper} {o' : Oper} {a : Act} {Q : Exit → Act → World → Prop} (hgd : o'.guard = none) (s t : Operand)
    (ho : o'.op = .call { callee := .builtin .append, args := #[s, t], argTypes := #[90, 90] }) (B : Nat) (v : Value) (ps : List (List Int)) (hs : a.eval s = v) (hown : OwnBn wr B v ps) (qs : List (List Int)) (lo hi b o c : Nat)
    (hx : a.eval t = .slice (some ⟨b, o, none⟩) qs.length c) (hq : RBn wr lo hi b o qs) (hl : ps.length ≤ 1048576) (hql : qs.length ≤ 1048576) (hB : B ≤ wr.heap.size)
    (h : ∀ v' w', OwnBn w' B v' (ps ++ qs) → Below B wr w' → wpList Try.prog ops Q rest (a.put o'.dst v') w') : wpList Try.prog ops Q (o' :: rest) a wr := by
  obtain ⟨v', w', hr, h1, h2⟩ := run_appBnN o'.type B v ps hown qs lo hi b o c hq hl hql hB
  exact Lib.wpList_append_run _ hgd _ _ _ _ ho _ _ hs hx _ _ hr (h v' w' h1 h2)

theorem run_growBn {n : Nat} (h0 : 0 < n) (hn : n ≤ 1048576) (ty : TypeId) (w : World) : ∃ (G : Nat) (cs : Array Value), n ≤ G ∧ G ≤ maxLen ∧ cs.size = G * 10 ∧ (Builtin.append_ #[90, 3] ty #[.slice none 0 0, .int .i64 (n : Int)]).run Try.prog w = .ok (.slice (some ⟨w.heap.size, 0, none⟩) n G) (w.drew.alloc (.cells cs 96)) := by
  obtain ⟨i0, hi, hz0, hz1, hz2⟩ := info_parts infoBan2
  have h := Lib.run_append_grow_zeros (P := Try.prog) w 90 3 ty 96 i0 _ .i64 .i64 undBans undInt hi hz0 none 0 0 [] (run_firstCells_none _ _ _ _ _) n h0 (by omega) (by omega) (by omega) (by rw [hz2]; omega) (by rw [hz2]; exact growslice_fits (by omega) (by omega))
  rw [Nat.zero_add] at h
  have hge := grownCap_ge w n 0 96
  refine ⟨_, _, hge, grownCap_le_maxLen w n 0 _ (by unfold maxLen; omega), ?_, h⟩
  simp [Builtin.zeroCells, Value.cells]
  omega

set_option maxRecDepth 100000 in
set_option maxHeartbeats 2000000 in
theorem x_GrowBn {n : Nat} {w : World} (hn : n ≤ 1048576) :
    Calls Try.prog 178 #[.slice none 0 0, .int .i64 (n : Int)] w (fun e w' => ∃ a c, e = .returned (.slice a 0 c) ∧ OwnBn w' w.heap.size (.slice a 0 c) [] ∧ Below w.heap.size w w') := by
  by_cases h0 : n = 0
  · subst h0
    go_enter Try.func178, Try.ntmps178
    go_wp2
    go_ret
    exact ⟨none, 0, rfl, OwnBn.nil _ _, Below.refl _ _⟩
  have hpos : 0 < (n : Int) := by omega
  obtain ⟨G, cs, hG, hG2, hcs, hrz⟩ := run_growBn (by omega) hn 90 w
  have hG3 : G ≤ 9223372036854775807 := by unfold maxLen at hG2; omega
  have HO : Hid (OwnBn (w.drew.alloc (.cells cs 96)) w.heap.size (.slice (some ⟨w.heap.size, 0, none⟩) 0 G) []) :=
    World.ownsRow_made w.drew cs G (Nat.le_refl w.heap.size) hG2 hcs
  have HB : Hid (Below w.heap.size w (w.drew.alloc (.cells cs 96))) := ((Below.refl w.heap.size w).drew).alloc (Nat.le_refl w.heap.size) _
  clear hcs hG2
  go_enter Try.func178, Try.ntmps178
  go_wp2_with (at_builtin; refine Lib.wpList_append_run _ rfl _ _ _ _ rfl _ _ rfl rfl _ _ hrz ?_)
  go_ret
  exact ⟨_, _, rfl, HO.out, HB.out⟩

set_option maxRecDepth 100000 in
set_option maxHeartbeats 4000000 in
theorem x_ConcatBn {b n1 n2 c1 c2 lo hi : Nat} {b1 o1 b2 o2 : Nat} {mm1 mm2 : List (List Int)} {w : World} (e1 : w.cell? ⟨b, 0, none⟩ = some (.slice (some ⟨b1, o1, none⟩) n1 c1)) (e2 : w.cell? ⟨b, 1, none⟩ = some (.slice (some ⟨b2, o2, none⟩) n2 c2)) (hb : b < w.heap.size) (hn1 : n1 = mm1.length) (hn2 : n2 = mm2.length)
    (h1 : RBn w lo hi b1 o1 mm1) (h2 : RBn w lo hi b2 o2 mm2) (hhi : hi ≤ w.heap.size) (hl1 : n1 ≤ 500000) (hl2 : n2 ≤ 500000) :
    Calls Try.prog 164 #[.slice (some ⟨b, 0, none⟩) 2 2] w (fun e w' => ∃ v, e = .returned v ∧ OwnBn w' w.heap.size v (mm1 ++ mm2) ∧ Below w.heap.size w w') := by
  subst hn1 hn2
  have hi0 : ∀ wx : World, (Instr.indexAt 148 (.slice (some ⟨b, 0, none⟩) 2 2) (.int .i64 0)).run Try.prog wx = .ok (.pointer (some ⟨b, 0, none⟩)) wx := fun wx => idxBB (k := 0) (by omega) wx
  have hi1 : ∀ wx : World, (Instr.indexAt 148 (.slice (some ⟨b, 0, none⟩) 2 2) (.int .i64 1)).run Try.prog wx = .ok (.pointer (some ⟨b, 1, none⟩)) wx := fun wx => idxBB (k := 1) (by omega) wx
  go_enter Try.func164, Try.ntmps164
  go_wp2
  go_loop [3, 11] (fun v i => (i = .int .i64 0 ∧ v = .int .i64 0) ∨ (i = .int .i64 1 ∧ v = .int .i64 (mm1.length : Int)) ∨ (i = .int .i64 2 ∧ v = .int .i64 ((mm1.length + mm2.length : Nat) : Int))) (fun _ i => 2 - (intOf i).toNat)
  case atStart => exact .inl ⟨rfl, rfl⟩
  case round =>
    rcases hrel with ⟨rfl, rfl⟩ | ⟨rfl, rfl⟩ | ⟨rfl, rfl⟩
    · go_wp2
      go_round
      case rel => exact .inr (.inl ⟨rfl, rfl⟩)
      case measure => simp [intOf]
    · go_wp2
      go_round
      case rel => exact .inr (.inr ⟨rfl, by go_num⟩)
      case measure => simp [intOf]
    · obtain ⟨N, hN⟩ : ∃ N, mm1.length + mm2.length = N := ⟨_, rfl⟩
      have hNl : N ≤ 1048576 := by omega
      rw [hN]
      clear hN
      go_wp2_with fail
      refine (x_GrowBn hNl).mono ?_
      rintro e w1 ⟨a1, c1', rfl, hst, hb1⟩
      have hs1 := hb1.size
      have f1 := h1.below hb1 hhi
      have f2 := h2.below hb1 hhi
      have g1 := (hb1.cell (p := ⟨b, 0, none⟩) hb).trans e1
      have g2 := (hb1.cell (p := ⟨b, 1, none⟩) hb).trans e2
      clear e1 e2 h1 h2
      go_wp2
      go_loopw [6, 27] (fun v i wr => OwnBn wr w.heap.size v (prtI mm1 mm2 (intOf i).toNat) ∧ Below w.heap.size w wr ∧ RBn wr lo hi b1 o1 mm1 ∧ RBn wr lo hi b2 o2 mm2 ∧ wr.cell? ⟨b, 0, none⟩ = some (.slice (some ⟨b1, o1, none⟩) mm1.length c1) ∧ wr.cell? ⟨b, 1, none⟩ = some (.slice (some ⟨b2, o2, none⟩) mm2.length c2) ∧ (i = .int .i64 0 ∨ i = .int .i64 1 ∨ i = .int .i64 2)) (fun _ i _ => 2 - (intOf i).toNat)
      case atStart => exact ⟨by simpa [prtI, intOf] using hst, hb1, f1, f2, g1, g2, .inl rfl⟩
      case round =>
        clear hst f1 f2 g1 g2
        obtain ⟨hown, hK, f1, f2, g1, g2, hi'⟩ := hrel
        have hsz := hK.size
        rcases hi' with rfl | rfl | rfl
        · have hown0 : OwnBn wr w.heap.size _ [] := hown
          have HP : Hid (prtI mm1 mm2 1 = mm1) := by simp [Hid, prtI]
          clear hown
          go_wp2_with (first
            | (at_builtin; refine wpList_appBnN rfl _ _ rfl w.heap.size _ [] rfl hown0 mm1 lo hi b1 o1 c1 rfl f1 (by simp) (by omega) (by omega) ?_; intro v2 w2 hown2 hk2)
            | go_in)
          have HO : Hid (OwnBn w2 w.heap.size v2 (prtI mm1 mm2 1)) := by show OwnBn _ _ _ _; rw [HP.out]; exact hown2
          have hK2 := hK.trans hk2
          have f1' := f1.below hk2 hhi
          have f2' := f2.below hk2 hhi
          have g1' := (hk2.cell (p := ⟨b, 0, none⟩) hb).trans g1
          have g2' := (hk2.cell (p := ⟨b, 1, none⟩) hb).trans g2
          clear hown2 hk2 hK hown0
          go_roundw
          case rel => exact ⟨HO.out, hK2, f1', f2', g1', g2', .inr (.inl rfl)⟩
          case measure => simp [intOf]
        · have hown0 : OwnBn wr w.heap.size _ mm1 := hown
          have HP : Hid (prtI mm1 mm2 2 = mm1 ++ mm2) := by simp [Hid, prtI]
          clear hown
          go_wp2_with (first
            | (at_builtin; refine wpList_appBnN rfl _ _ rfl w.heap.size _ mm1 rfl hown0 mm2 lo hi b2 o2 c2 rfl f2 (by omega) (by omega) (by omega) ?_; intro v2 w2 hown2 hk2)
            | go_in)
          have HO : Hid (OwnBn w2 w.heap.size v2 (prtI mm1 mm2 2)) := by show OwnBn _ _ _ _; rw [HP.out]; exact hown2
          have hK2 := hK.trans hk2
          have f1' := f1.below hk2 hhi
          have f2' := f2.below hk2 hhi
          have g1' := (hk2.cell (p := ⟨b, 0, none⟩) hb).trans g1
          have g2' := (hk2.cell (p := ⟨b, 1, none⟩) hb).trans g2
          clear hown2 hk2 hK hown0
          go_roundw
          case rel => exact ⟨HO.out, hK2, f1', f2', g1', g2', .inr (.inr rfl)⟩
          case measure => simp [intOf]
        · have hown0 : OwnBn wr w.heap.size _ (mm1 ++ mm2) := hown
          obtain ⟨a5, c5, rfl, h5⟩ := hown0.slice
          go_wp2
          go_ret
          exact ⟨_, rfl, h5, hK⟩

theorem elemBs : Program.elem Try.prog 90 = 96 := by kernel_rfl
theorem undBsE : Try.prog.underlying 90 = some (.slice (Program.elem Try.prog 90)) := by kernel_rfl
theorem cutToB {b o n c k : Nat} {z : Int} (hz : z = (k : Int)) (hk : k ≤ c) (wx : World) : (Instr.slice 90 (.slice (some ⟨b, o, none⟩) n c) none (some (.int .i64 z)) none).run Try.prog wx = .ok (.slice (some ⟨b, o, none⟩) k c) wx := by
  subst hz
  rw [run_slice_h (P := Try.prog) (w := wx) 90 (some ⟨b, o, none⟩) n c undBsE .i64 (k : Int) (by omega) (by omega)]
  have hs := sizeBan wx
  rw [elemBs]
  simp [hs, Result.andThen, sliced, Addr.add]
theorem cutFromB {b o n c k : Nat} {z : Int} (hz : z = (k : Int)) (hk : k ≤ n) (hn : n ≤ c) : ∃ o', (k < n → o' = o + k * 10) ∧ ∀ wx : World, (Instr.slice 90 (.slice (some ⟨b, o, none⟩) n c) (some (.int .i64 z)) none none).run Try.prog wx = .ok (.slice (some ⟨b, o', none⟩) (n - k) (c - k)) wx := by
  subst hz
  refine ⟨if c = k then o else o + k * 10, fun h => by rw [if_neg (by omega)], fun wx => ?_⟩
  rw [run_slice_l (P := Try.prog) (w := wx) 90 (some ⟨b, o, none⟩) n c undBsE .i64 (k : Int) (by omega) (by omega)]
  have hs := sizeBan wx
  rw [elemBs]
  simp only [hs, Result.andThen, sliced, Int.toNat_natCast, Option.map_some, addrAddI]
  split <;> rfl
theorem csB_take (ps : List (List Int)) (k : Nat) : (ps.take k).flatMap csB = (ps.flatMap csB).take (k * 10) := by
  induction ps generalizing k with
  | nil => simp
  | cons p ps ih =>
    cases k with
    | zero => simp
    | succ k =>
      have hc : (csB p).length = 10 := rfl
      rw [List.take_succ_cons, List.flatMap_cons, List.flatMap_cons, ih, List.take_append, hc, List.take_of_length_le (l := csB p) (by rw [hc]; omega), show (k + 1) * 10 - 10 = k * 10 by omega]
theorem csB_drop (ps : List (List Int)) (k : Nat) : (ps.drop k).flatMap csB = (ps.flatMap csB).drop (k * 10) := by
  induction ps generalizing k with
  | nil => simp
  | cons p ps ih =>
    cases k with
    | zero => simp
    | succ k =>
      have hc : (csB p).length = 10 := rfl
      rw [List.drop_succ_cons, List.flatMap_cons, ih, List.drop_append, hc, List.drop_of_length_le (l := csB p) (by rw [hc]; omega), show (k + 1) * 10 - 10 = k * 10 by omega, List.nil_append]
theorem RBn.take {w : World} {lo hi b o : Nat} {ps : List (List Int)} (h : RBn w lo hi b o ps) (k : Nat) : RBn w lo hi b o (ps.take k) := by
  intro h0
  obtain ⟨h1, h2, h3⟩ := h (by rintro rfl; simp at h0)
  refine ⟨h1, h2, fun j u hu => h3 j u ?_⟩
  rw [csB_take, List.getElem?_take] at hu
  split at hu
  · exact hu
  · cases hu
theorem RBn.drop {w : World} {lo hi b o o' : Nat} {ps : List (List Int)} (h : RBn w lo hi b o ps) {k : Nat} (ho : k < ps.length → o' = o + k * 10) : RBn w lo hi b o' (ps.drop k) := by
  intro h0
  have hk : k < ps.length := by
    apply Classical.byContradiction
    intro hn
    exact h0 (List.drop_of_length_le (by omega))
  obtain ⟨h1, h2, h3⟩ := h (by rintro rfl; simp at hk)
  refine ⟨h1, h2, fun j u hu => ?_⟩
  rw [csB_drop, List.getElem?_drop] at hu
  rw [ho hk, Nat.add_assoc]
  exact h3 _ u hu
theorem OwnBn.rd {w : World} {B : Nat} {v : Value} {ps : List (List Int)} (h : OwnBn w B v ps) (h0 : ps ≠ []) : ∃ g c, v = .slice (some ⟨g, 0, none⟩) ps.length c ∧ ps.length ≤ c ∧ RBn w B w.heap.size g 0 ps := by
  have hlt := h.lt
  rcases h.2 with ⟨_, h1⟩ | ⟨g, cap, cur, rfl, hb, hg, hn, hm, hs, ht⟩
  · exact absurd (List.eq_nil_of_length_eq_zero h1) h0
  · refine ⟨g, cap, rfl, by omega, fun _ => ⟨hb, (hlt g rfl).2, fun j u hu => ?_⟩⟩
    rw [cell_of_row w g _ cur _ (0, 0) hg, Nat.zero_add]
    rw [← ht, List.getElem?_take] at hu
    split at hu
    · simpa using hu
    · cases hu

set_option maxRecDepth 100000 in
set_option maxHeartbeats 2000000 in
theorem i_withoutBn {s : List (List Int)} {b o c lo hi k : Nat} {w : World} (hs : RBn w lo hi b o s) (hB : hi ≤ w.heap.size) (hsl : s.length ≤ 100000) (hc : s.length ≤ c) (hk : k < s.length) :
    Calls Try.prog 110 #[.slice (some ⟨b, o, none⟩) s.length c, .int .i64 (k : Int)] w (fun e w' => ∃ v, e = .returned v ∧ OwnBn w' w.heap.size v (s.eraseIdx k) ∧ Below w.heap.size w w') := by
  have hto := cutToB (b := b) (o := o) (n := s.length) (c := c) (k := k) (z := (k : Int)) rfl (by omega)
  obtain ⟨o', ho', hfrom⟩ := cutFromB (b := b) (o := o) (n := s.length) (c := c) (k := k + 1) (z := IntKind.i64.wrap ((k : Int) + 1)) (by rw [IntWalk.i64_in _ (by omega)]; omega) (by omega) hc
  have hbA := (Below.refl _ w).alloc (Nat.le_refl w.heap.size) (.cells #[.slice (some ⟨b, o, none⟩) k c, .slice (some ⟨b, o', none⟩) (s.length - (k + 1)) (c - (k + 1))] 90)
  have hs1 := hs.below hbA hB
  have HE : Hid (s.eraseIdx k = s.take k ++ s.drop (k + 1)) := List.eraseIdx_eq_take_drop_succ ..
  have hn := heap_alloc_new w (.cells #[.slice (some ⟨b, o, none⟩) k c, .slice (some ⟨b, o', none⟩) (s.length - (k + 1)) (c - (k + 1))] 90)
  obtain ⟨W, hW⟩ : ∃ W, w.alloc (.cells #[.slice (some ⟨b, o, none⟩) k c, .slice (some ⟨b, o', none⟩) (s.length - (k + 1)) (c - (k + 1))] 90) = W := ⟨_, rfl⟩
  have e1 : W.cell? ⟨w.heap.size, 0, none⟩ = some (.slice (some ⟨b, o, none⟩) k c) := by rw [← hW, cell_of_row _ w.heap.size 0 _ 90 (0, 0) hn]; rfl
  have e2 : W.cell? ⟨w.heap.size, 1, none⟩ = some (.slice (some ⟨b, o', none⟩) (s.length - (k + 1)) (c - (k + 1))) := by rw [← hW, cell_of_row _ w.heap.size 1 _ 90 (0, 0) hn]; rfl
  have hWs : w.heap.size < W.heap.size := by rw [← hW]; simp
  rw [hW] at hbA hs1
  have f1 := hs1.take k
  have f2 := hs1.drop ho'
  have hcat := (x_ConcatBn (w := W.drew) e1 e2 hWs (by simp; omega) (by simp) f1 f2 (by show hi ≤ W.heap.size; omega) (by omega) (by omega))
  obtain ⟨l, hl⟩ : ∃ l, s.eraseIdx k = l := ⟨_, rfl⟩
  rw [← HE.out, hl] at hcat
  rw [hl]
  have HCAT := Lib.hid hcat
  clear hcat hl HE
  clear hn f1 f2 hs1 e1 e2 hs ho'
  go_enter Try.func110, Try.ntmps110
  go_wp2_with fail
  go_region_with ((go_at_call 164; refine HCAT.out.mono ?_; rintro e w1 ⟨v1, rfl, h1, hb1⟩))
  have hsW : w.heap.size ≤ W.heap.size := by omega
  have hbb : Below w.heap.size w w1 := hbA.trans (((Below.refl _ W).drew).trans (hb1.mono hsW))
  clear hb1 hbA HCAT
  go_wp2
  go_ret
  exact ⟨_, rfl, h1.wide hsW, hbb⟩

end Go.Proofs.Ytbdbfbobcdepgaa
