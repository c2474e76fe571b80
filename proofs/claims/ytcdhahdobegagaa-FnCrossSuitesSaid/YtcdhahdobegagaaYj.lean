/- Walks: suites put together, by the library. -/
import Derived.Test.YtcdhahdobegagaaYi
import Derived.Lib.AppendZerosOnto
namespace Go.Proofs.Ytcdhahdobegagaa
open Go.RowKit

theorem run_growII {n : Nat} (h0 : 0 < n) (hn : n ≤ 1048576) (ty : TypeId) (w : World) : ∃ (G : Nat) (cs : Array Value), n ≤ G ∧ G ≤ maxLen ∧ cs.size = G ∧ (Builtin.append_ #[24, 3] ty #[.slice none 0 0, .int .i64 (n : Int)]).run Try.prog w = .ok (.slice (some ⟨w.heap.size, 0, none⟩) n G) (w.drew.alloc (.cells cs 23)) := by
  obtain ⟨i0, hi, hz0, hz1, hz2⟩ := info_parts infoI
  have h := Lib.run_append_grow_zeros (P := Try.prog) w 24 3 ty 23 i0 (.slice none 0 0) .i64 .i64 undII undInt hi hz0 none 0 0 [] (run_firstCells_none _ _ _ _ _) n h0 (by omega) (by omega) (by omega) (by rw [hz2]; omega) (by rw [hz2]; exact growslice_fits (by omega) (by omega))
  rw [Nat.zero_add] at h
  have hge := grownCap_ge w n 0 23
  refine ⟨_, _, hge, grownCap_le_maxLen w n 0 _ (by unfold maxLen; omega), ?_, h⟩
  simp [Builtin.zeroCells, Value.cells]
  omega

set_option maxRecDepth 100000 in
set_option maxHeartbeats 2000000 in
theorem x_GrowII {n : Nat} {w : World} (lo hi : Nat) (hn : n ≤ 1048576) (hhi : hi ≤ w.heap.size) :
    Calls Try.prog 153 #[.slice none 0 0, .int .i64 (n : Int)] w (fun e w' => ∃ a c, e = .returned (.slice a 0 c) ∧ OwnRR w' w.heap.size lo hi (.slice a 0 c) [] ∧ Below w.heap.size w w') := by
  by_cases h0 : n = 0
  · subst h0
    go_enter Try.func153, Try.ntmps153
    go_wp2
    go_ret
    exact ⟨none, 0, rfl, OwnRR.nil _ _ _ _, Below.refl _ _⟩
  have hpos : 0 < (n : Int) := by omega
  obtain ⟨G, cs, hG, hG2, hcs, hrz⟩ := run_growII (by omega) hn 24 w
  have hG3 : G ≤ 9223372036854775807 := by unfold maxLen at hG2; omega
  have HO : Hid (OwnRR (w.drew.alloc (.cells cs 23)) w.heap.size lo hi (.slice (some ⟨w.heap.size, 0, none⟩) 0 G) []) :=
    ⟨[], World.ownsRow_made w.drew cs G (Nat.le_refl w.heap.size) hG2 (by rw [hcs, Nat.mul_one]), by simp, fun g hg => by cases hg; exact .inr hhi⟩
  have HB : Hid (Below w.heap.size w (w.drew.alloc (.cells cs 23))) := ((Below.refl w.heap.size w).drew).alloc (Nat.le_refl w.heap.size) _
  clear hcs hG2
  go_enter Try.func153, Try.ntmps153
  go_wp2_with (at_builtin; refine Lib.wpList_append_run _ rfl _ _ _ _ rfl _ _ rfl rfl _ _ hrz ?_)
  go_ret
  exact ⟨_, _, rfl, HO.out, HB.out⟩

theorem undIII : Try.prog.underlying 126 = some (.slice 24) := by kernel_rfl
theorem sizeII (w : World) : (sizeOf 24).run Try.prog w = .ok 1 w := by kernel_rfl
theorem idxIII {a : Option Addr} {len k b o : Nat} (ha : a = some ⟨b, o, none⟩) (hk : k < len) (cap : Nat) (wx : World) :
    (Instr.indexAt 126 (.slice a len cap) (.int .i64 (k : Int))).run Try.prog wx = .ok (.pointer (some ⟨b, o + k, none⟩)) wx := idx_run undIII sizeII ha hk cap wx

/-- the first k parts of two -/
def prt {α : Type} (x y : List α) (k : Nat) : List α := if k = 0 then [] else if k = 1 then x else x ++ y

set_option maxRecDepth 100000 in
set_option maxHeartbeats 4000000 in
theorem x_ConcatII {b n1 n2 c1 c2 lo hi : Nat} {ad1 ad2 : Addr} {mm1 mm2 : List (List Int)} {w : World} (e1 : w.cell? ⟨b, 0, none⟩ = some (.slice (some ad1) n1 c1)) (e2 : w.cell? ⟨b, 1, none⟩ = some (.slice (some ad2) n2 c2)) (hb : b < w.heap.size) (hn1 : n1 = mm1.length) (hn2 : n2 = mm2.length)
    (h1 : RII w lo hi (some ad1) mm1) (h2 : RII w lo hi (some ad2) mm2) (hlo : lo ≤ w.heap.size) (hhi : hi ≤ w.heap.size) (hl1 : n1 ≤ 500000) (hl2 : n2 ≤ 500000) :
    Calls Try.prog 141 #[.slice (some ⟨b, 0, none⟩) 2 2] w (fun e w' => ∃ a' c', e = .returned (.slice a' (mm1 ++ mm2).length c') ∧ RIIc w' lo w'.heap.size a' c' (mm1 ++ mm2) ∧ Below w.heap.size w w') := by
  have HN1 := Lib.hid hn1
  have HN2 := Lib.hid hn2
  have hi0 : ∀ wx : World, (Instr.indexAt 126 (.slice (some ⟨b, 0, none⟩) 2 2) (.int .i64 0)).run Try.prog wx = .ok (.pointer (some ⟨b, 0, none⟩)) wx := fun wx => idxIII (k := 0) rfl (by omega) 2 wx
  have hi1 : ∀ wx : World, (Instr.indexAt 126 (.slice (some ⟨b, 0, none⟩) 2 2) (.int .i64 1)).run Try.prog wx = .ok (.pointer (some ⟨b, 1, none⟩)) wx := fun wx => idxIII (k := 1) rfl (by omega) 2 wx
  clear hn1 hn2
  go_enter Try.func141, Try.ntmps141
  go_wp2
  go_loop [3, 11] (fun v i => (i = .int .i64 0 ∧ v = .int .i64 0) ∨ (i = .int .i64 1 ∧ v = .int .i64 (n1 : Int)) ∨ (i = .int .i64 2 ∧ v = .int .i64 ((n1 + n2 : Nat) : Int))) (fun _ i => 2 - (intOf i).toNat)
  case atStart => exact .inl ⟨rfl, rfl⟩
  case round =>
    rcases hrel with ⟨rfl, rfl⟩ | ⟨rfl, rfl⟩ | ⟨rfl, rfl⟩
    · go_wp2
      go_round
      case rel => exact .inr (.inl ⟨rfl, rfl⟩)
      case measure => simp [intOf]
    · go_wp2
      go_round
      case rel => exact .inr (.inr ⟨rfl, by go_num⟩)
      case measure => simp [intOf]
    · obtain ⟨N, hN⟩ : ∃ N, n1 + n2 = N := ⟨_, rfl⟩
      have hNl : N ≤ 1048576 := by omega
      rw [hN]
      go_wp2_with fail
      refine (x_GrowII lo hi hNl hhi).mono ?_
      rintro e w1 ⟨a1, c1', rfl, hst, hb1⟩
      have hs1 := hb1.size
      have f1 := h1.below hb1 hhi
      have f2 := h2.below hb1 hhi
      have g1 := (hb1.cell (p := ⟨b, 0, none⟩) hb).trans e1
      have g2 := (hb1.cell (p := ⟨b, 1, none⟩) hb).trans e2
      clear e1 e2 h1 h2
      go_wp2
      go_loopw [6, 27] (fun v i wr => OwnRR wr w.heap.size lo hi v (prt mm1 mm2 (intOf i).toNat) ∧ Kp w.heap.size lo hi w1 wr ∧ (i = .int .i64 0 ∨ i = .int .i64 1 ∨ i = .int .i64 2)) (fun _ i _ => 2 - (intOf i).toNat)
      case atStart => exact ⟨by simpa [prt, intOf] using hst, Kp.refl _ _ _ _, .inl rfl⟩
      case round =>
        clear hst
        obtain ⟨hown, hK, hi'⟩ := hrel
        have hsz := hK.size
        have f1 := f1.kp hK (by omega)
        have f2 := f2.kp hK (by omega)
        have g1 := ((hK.below hs1).cell (p := ⟨b, 0, none⟩) hb).trans g1
        have g2 := ((hK.below hs1).cell (p := ⟨b, 1, none⟩) hb).trans g2
        rcases hi' with rfl | rfl | rfl
        · have hown0 : OwnRR wr w.heap.size lo hi _ [] := hown
          have HP : Hid (prt mm1 mm2 1 = mm1) := by simp [Hid, prt]
          have hm1 : mm1.length ≤ 500000 := by have := HN1.out; omega
          clear hown
          go_wp2_with (first
            | (at_builtin; refine wpList_appRN rfl _ _ rfl w.heap.size lo hi _ [] mm1 rfl hown0 (by omega) (by omega) ad1 n1 c1 HN1.out rfl f1.addc (by simp) (by omega) ?_; intro v2 w2 hown2 hk2 _)
            | go_in)
          have HO : Hid (OwnRR w2 w.heap.size lo hi v2 (prt mm1 mm2 1)) := by show OwnRR _ _ _ _ _ _; rw [HP.out]; exact hown2
          have hK2 := hK.trans hk2
          clear hown2 hk2 hK hown0
          go_roundw
          case rel => exact ⟨HO.out, hK2, .inr (.inl rfl)⟩
          case measure => simp [intOf]
        · have hown0 : OwnRR wr w.heap.size lo hi _ mm1 := hown
          have HP : Hid (prt mm1 mm2 2 = mm1 ++ mm2) := by simp [Hid, prt]
          have hm1 : mm1.length ≤ 500000 := by have := HN1.out; omega
          have hm2 : mm2.length ≤ 500000 := by have := HN2.out; omega
          clear hown
          go_wp2_with (first
            | (at_builtin; refine wpList_appRN rfl _ _ rfl w.heap.size lo hi _ mm1 mm2 rfl hown0 (by omega) (by omega) ad2 n2 c2 HN2.out rfl f2.addc (by omega) (by omega) ?_; intro v2 w2 hown2 hk2 _)
            | go_in)
          have HO : Hid (OwnRR w2 w.heap.size lo hi v2 (prt mm1 mm2 2)) := by show OwnRR _ _ _ _ _ _; rw [HP.out]; exact hown2
          have hK2 := hK.trans hk2
          clear hown2 hk2 hK hown0
          go_roundw
          case rel => exact ⟨HO.out, hK2, .inr (.inr rfl)⟩
          case measure => simp [intOf]
        · have hown0 : OwnRR wr w.heap.size lo hi _ (mm1 ++ mm2) := hown
          obtain ⟨a5, c5, rfl, h5⟩ := hown0.sliceU hlo (by omega)
          go_wp2
          go_ret
          exact ⟨_, _, rfl, h5, hb1.trans (hK.below (by omega))⟩

set_option maxRecDepth 100000 in
set_option maxHeartbeats 2000000 in
theorem i_withoutII {s : List (List Int)} {a : Option Addr} {c lo hi k : Nat} {w : World} (hs : RII w lo hi a s) (hB : hi ≤ w.heap.size) (hsl : s.length ≤ 100000) (hc : s.length ≤ c) (hk : k < s.length) :
    Calls Try.prog 96 #[.slice a s.length c, .int .i64 (k : Int)] w (fun e w' => ∃ a' c', e = .returned (.slice a' (s.eraseIdx k).length c') ∧ RIIc w' lo w'.heap.size a' c' (s.eraseIdx k) ∧ Below w.heap.size w w') := by
  obtain ⟨b, o, a0, c0, r0, ha, hlo, hhi, _⟩ := hs.at hk
  subst ha
  have hto := sliceToII (b := b) (o := o) (n := s.length) (c := c) (k := k) (z := (k : Int)) rfl (by omega)
  obtain ⟨o', ho', hfrom⟩ := sliceFromII (b := b) (o := o) (n := s.length) (c := c) (k := k + 1) (z := IntKind.i64.wrap ((k : Int) + 1)) (by rw [IntWalk.i64_in _ (by omega)]; omega) (by omega) hc
  have hbA := (Below.refl _ w).alloc (Nat.le_refl w.heap.size) (.cells #[.slice (some ⟨b, o, none⟩) k c, .slice (some ⟨b, o', none⟩) (s.length - (k + 1)) (c - (k + 1))] 24)
  have hs1 := hs.below hbA hB
  have HE : Hid (s.eraseIdx k = s.take k ++ s.drop (k + 1)) := List.eraseIdx_eq_take_drop_succ ..
  have hn := heap_alloc_new w (.cells #[.slice (some ⟨b, o, none⟩) k c, .slice (some ⟨b, o', none⟩) (s.length - (k + 1)) (c - (k + 1))] 24)
  obtain ⟨W, hW⟩ : ∃ W, w.alloc (.cells #[.slice (some ⟨b, o, none⟩) k c, .slice (some ⟨b, o', none⟩) (s.length - (k + 1)) (c - (k + 1))] 24) = W := ⟨_, rfl⟩
  have e1 : W.cell? ⟨w.heap.size, 0, none⟩ = some (.slice (some ⟨b, o, none⟩) k c) := by rw [← hW, cell_of_row _ w.heap.size 0 _ 24 (0, 0) hn]; rfl
  have e2 : W.cell? ⟨w.heap.size, 1, none⟩ = some (.slice (some ⟨b, o', none⟩) (s.length - (k + 1)) (c - (k + 1))) := by rw [← hW, cell_of_row _ w.heap.size 1 _ 24 (0, 0) hn]; rfl
  have hWs : w.heap.size < W.heap.size := by rw [← hW]; simp
  rw [hW] at hbA hs1
  have f1 := hs1.takeR k
  have f2 := hs1.dropR ho'
  have hcat := (x_ConcatII (w := W.drew) e1 e2 hWs (by simp; omega) (by simp) f1.drew f2.drew (by show lo ≤ W.heap.size; omega) (by show hi ≤ W.heap.size; omega) (by omega) (by omega))
  obtain ⟨l, hl⟩ : ∃ l, s.eraseIdx k = l := ⟨_, rfl⟩
  rw [← HE.out, hl] at hcat
  rw [hl]
  have HCAT := Lib.hid hcat
  clear hcat hl HE
  clear hn f1 f2 hs1 e1 e2 hs ho'
  go_enter Try.func96, Try.ntmps96
  go_wp2_with fail
  go_region_with ((go_at_call 141; refine HCAT.out.mono ?_; rintro e w1 ⟨a1, c1, rfl, h1, hb1⟩))
  have hbb : Below w.heap.size w w1 := hbA.trans (((Below.refl _ W).drew).trans (hb1.mono (by show _ ≤ W.heap.size; omega)))
  clear hb1 hbA HCAT
  go_wp2
  go_ret
  exact ⟨_, _, rfl, h1, hbb⟩

end Go.Proofs.Ytcdhahdobegagaa
