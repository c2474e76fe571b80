/- Walks: suites put together, by the library. -/
import Derived.Test.YtpioldgpfpmjiaaGreatDoorYi
import Derived.Lib.AppendZerosOnto
namespace Go.Proofs.YtpioldgpfpmjiaaGreatDoor
open Go.RowKit

theorem run_growII {n : Nat} (h0 : 0 < n) (hn : n ≤ 1048576) (ty : TypeId) (w : World) : ∃ (G : Nat) (cs : Array Value), n ≤ G ∧ G ≤ maxLen ∧ cs.size = G ∧ (Builtin.append_ #[49, 3] ty #[.slice none 0 0, .int .i64 (n : Int)]).run Tryz.prog w = .ok (.slice (some ⟨w.heap.size, 0, none⟩) n G) (w.drew.alloc (.cells cs 45)) := by
  obtain ⟨i0, hi, hz0, hz1, hz2⟩ := info_parts infoI
  have h := Lib.run_append_grow_zeros (P := Tryz.prog) w 49 3 ty 45 i0 (.slice none 0 0) .i64 .i64 undII undInt hi hz0 none 0 0 [] (run_firstCells_none _ _ _ _ _) n h0 (by omega) (by omega) (by omega) (by rw [hz2]; omega) (by rw [hz2]; exact growslice_fits (by omega) (by omega))
  rw [Nat.zero_add] at h
  have hge := grownCap_ge w n 0 45
  refine ⟨_, _, hge, grownCap_le_maxLen w n 0 _ (by unfold maxLen; omega), ?_, h⟩
  simp [Builtin.zeroCells, Value.cells]
  omega

set_option maxRecDepth 100000 in
set_option maxHeartbeats 2000000 in
theorem x_GrowII {n : Nat} {w : World} (lo hi : Nat) (hn : n ≤ 1048576) (hhi : hi ≤ w.heap.size) :
    Calls Tryz.prog 117 #[.slice none 0 0, .int .i64 (n : Int)] w (fun e w' => ∃ a c, e = .returned (.slice a 0 c) ∧ OwnRR w' w.heap.size lo hi (.slice a 0 c) [] ∧ Below w.heap.size w w') := by
  by_cases h0 : n = 0
  · subst h0
    go_enter Tryz.func117, Tryz.ntmps117
    go_wp2
    go_ret
    exact ⟨none, 0, rfl, OwnRR.nil _ _ _ _, Below.refl _ _⟩
  have hpos : 0 < (n : Int) := by omega
  obtain ⟨G, cs, hG, hG2, hcs, hrz⟩ := run_growII (by omega) hn 49 w
  have hG3 : G ≤ 9223372036854775807 := by unfold maxLen at hG2; omega
  have HO : Hid (OwnRR (w.drew.alloc (.cells cs 45)) w.heap.size lo hi (.slice (some ⟨w.heap.size, 0, none⟩) 0 G) []) :=
    ⟨[], World.ownsRow_made w.drew cs G (Nat.le_refl w.heap.size) hG2 (by rw [hcs, Nat.mul_one]), by simp, fun g hg => by cases hg; exact .inr hhi⟩
  have HB : Hid (Below w.heap.size w (w.drew.alloc (.cells cs 45))) := ((Below.refl w.heap.size w).drew).alloc (Nat.le_refl w.heap.size) _
  clear hcs hG2
  go_enter Tryz.func117, Tryz.ntmps117
  go_wp2_with (at_builtin; refine Lib.wpList_append_run _ rfl _ _ _ _ rfl _ _ rfl rfl _ _ hrz ?_)
  go_ret
  exact ⟨_, _, rfl, HO.out, HB.out⟩

theorem undIII : Tryz.prog.underlying 155 = some (.slice 49) := by kernel_rfl
theorem sizeII (w : World) : (sizeOf 49).run Tryz.prog w = .ok 1 w := by kernel_rfl
theorem idxIII {a : Option Addr} {len k b o : Nat} (ha : a = some ⟨b, o, none⟩) (hk : k < len) (cap : Nat) (wx : World) :
    (Instr.indexAt 155 (.slice a len cap) (.int .i64 (k : Int))).run Tryz.prog wx = .ok (.pointer (some ⟨b, o + k, none⟩)) wx := idx_run undIII sizeII ha hk cap wx

/-- the first k parts of two -/
def prt {α : Type} (x y : List α) (k : Nat) : List α := if k = 0 then [] else if k = 1 then x else x ++ y

set_option maxRecDepth 100000 in
set_option maxHeartbeats 4000000 in
theorem x_ConcatII {b n1 n2 c1 c2 lo hi : Nat} {ad1 ad2 : Addr} {mm1 mm2 : List (List Int)} {w : World} (e1 : w.cell? ⟨b, 0, none⟩ = some (.slice (some ad1) n1 c1)) (e2 : w.cell? ⟨b, 1, none⟩ = some (.slice (some ad2) n2 c2)) (hb : b < w.heap.size) (hn1 : n1 = mm1.length) (hn2 : n2 = mm2.length)
    (h1 : RII w lo hi (some ad1) mm1) (h2 : RII w lo hi (some ad2) mm2) (hlo : lo ≤ w.heap.size) (hhi : hi ≤ w.heap.size) (hl1 : n1 ≤ 500000) (hl2 : n2 ≤ 500000) :
    Calls Tryz.prog 107 #[.slice (some ⟨b, 0, none⟩) 2 2] w (fun e w' => ∃ a' c', e = .returned (.slice a' (mm1 ++ mm2).length c') ∧ RIIc w' lo w'.heap.size a' c' (mm1 ++ mm2) ∧ Below w.heap.size w w') := by
  have HN1 := Lib.hid hn1
  have HN2 := Lib.hid hn2
  have hi0 : ∀ wx : World, (Instr.indexAt 155 (.slice (some ⟨b, 0, none⟩) 2 2) (.int .i64 0)).run Tryz.prog wx = .ok (.pointer (some ⟨b, 0, none⟩)) wx := fun wx => idxIII (k := 0) rfl (by omega) 2 wx
  have hi1 : ∀ wx : World, (Instr.indexAt 155 (.slice (some ⟨b, 0, none⟩) 2 2) (.int .i64 1)).run Tryz.prog wx = .ok (.pointer (some ⟨b, 1, none⟩)) wx := fun wx => idxIII (k := 1) rfl (by omega) 2 wx
  clear hn1 hn2
  go_enter Tryz.func107, Tryz.ntmps107
  go_wp2
  go_loop [3, 11] (fun v i => (i = .int .i64 0 ∧ v = .int .i64 0) ∨ (i = .int .i64 1 ∧ v = .int .i64 (n1 : Int)) ∨ (i = .int .i64 2 ∧ v = .int .i64 ((n1 + n2 : Nat) : Int))) (fun _ i => 2 - (intOf i).toNat)
  case atStart => exact .inl ⟨rfl, rfl⟩
  case round =>
    rcases hrel with ⟨rfl, rfl⟩ | ⟨rfl, rfl⟩ | ⟨rfl, rfl⟩
    · go_wp2
      go_round
      case rel => exact .inr (.inl ⟨rfl, rfl⟩)
      case measure => simp [intOf]
    · go_wp2
      go_round
      case rel => exact .inr (.inr ⟨rfl, by go_num⟩)
      case measure => simp [intOf]
    · obtain ⟨N, hN⟩ : ∃ N, n1 + n2 = N := ⟨_, rfl⟩
      have hNl : N ≤ 1048576 := by omega
      rw [hN]
      go_wp2_with fail
      refine (x_GrowII lo hi hNl hhi).mono ?_
      rintro e w1 ⟨a1, c1', rfl, hst, hb1⟩
      have hs1 := hb1.size
      have f1 := h1.below hb1 hhi
      have f2 := h2.below hb1 hhi
      have g1 := (hb1.cell (p := ⟨b, 0, none⟩) hb).trans e1
      have g2 := (hb1.cell (p := ⟨b, 1, none⟩) hb).trans e2
      clear e1 e2 h1 h2
      go_wp2
      go_loopw [6, 27] (fun v i wr => OwnRR wr w.heap.size lo hi v (prt mm1 mm2 (intOf i).toNat) ∧ Kp w.heap.size lo hi w1 wr ∧ (i = .int .i64 0 ∨ i = .int .i64 1 ∨ i = .int .i64 2)) (fun _ i _ => 2 - (intOf i).toNat)
      case atStart => exact ⟨by simpa [prt, intOf] using hst, Kp.refl _ _ _ _, .inl rfl⟩
      case round =>
        clear hst
        obtain ⟨hown, hK, hi'⟩ := hrel
        have hsz := hK.size
        have f1 := f1.kp hK (by omega)
        have f2 := f2.kp hK (by omega)
        have g1 := ((hK.below hs1).cell (p := ⟨b, 0, none⟩) hb).trans g1
        have g2 := ((hK.below hs1).cell (p := ⟨b, 1, none⟩) hb).trans g2
        rcases hi' with rfl | rfl | rfl
        · have hown0 : OwnRR wr w.heap.size lo hi _ [] := hown
          have HP : Hid (prt mm1 mm2 1 = mm1) := by simp [Hid, prt]
          have hm1 : mm1.length ≤ 500000 := by have := HN1.out; omega
          clear hown
          go_wp2_with (first
            | (at_builtin; refine wpList_appRN rfl _ _ rfl w.heap.size lo hi _ [] mm1 rfl hown0 (by omega) (by omega) ad1 n1 c1 HN1.out rfl f1.addc (by simp) (by omega) ?_; intro v2 w2 hown2 hk2 _)
            | go_in)
          have HO : Hid (OwnRR w2 w.heap.size lo hi v2 (prt mm1 mm2 1)) := by show OwnRR _ _ _ _ _ _; rw [HP.out]; exact hown2
          have hK2 := hK.trans hk2
          clear hown2 hk2 hK hown0
          go_roundw
          case rel => exact ⟨HO.out, hK2, .inr (.inl rfl)⟩
          case measure => simp [intOf]
        · have hown0 : OwnRR wr w.heap.size lo hi _ mm1 := hown
          have HP : Hid (prt mm1 mm2 2 = mm1 ++ mm2) := by simp [Hid, prt]
          have hm1 : mm1.length ≤ 500000 := by have := HN1.out; omega
          have hm2 : mm2.length ≤ 500000 := by have := HN2.out; omega
          clear hown
          go_wp2_with (first
            | (at_builtin; refine wpList_appRN rfl _ _ rfl w.heap.size lo hi _ mm1 mm2 rfl hown0 (by omega) (by omega) ad2 n2 c2 HN2.out rfl f2.addc (by omega) (by omega) ?_; intro v2 w2 hown2 hk2 _)
            | go_in)
          have HO : Hid (OwnRR w2 w.heap.size lo hi v2 (prt mm1 mm2 2)) := by show OwnRR _ _ _ _ _ _; rw [HP.out]; exact hown2
          have hK2 := hK.trans hk2
          clear hown2 hk2 hK hown0
          go_roundw
          case rel => exact ⟨HO.out, hK2, .inr (.inr rfl)⟩
          case measure => simp [intOf]
        · have hown0 : OwnRR wr w.heap.size lo hi _ (mm1 ++ mm2) := hown
          obtain ⟨a5, c5, rfl, h5⟩ := hown0.sliceU hlo (by omega)
          go_wp2
          go_ret
          exact ⟨_, _, rfl, h5, hb1.trans (hK.below (by omega))⟩

set_option maxRecDepth 100000 in
set_option maxHeartbeats 2000000 in
theorem i_withoutII {s : List (List Int)} {a : Option Addr} {c lo hi k : Nat} {w : World} (hs : RII w lo hi a s) (hB : hi ≤ w.heap.size) (hsl : s.length ≤ 100000) (hc : s.length ≤ c) (hk : k < s.length) :
    Calls Tryz.prog 89 #[.slice a s.length c, .int .i64 (k : Int)] w (fun e w' => ∃ a' c', e = .returned (.slice a' (s.eraseIdx k).length c') ∧ RIIc w' lo w'.heap.size a' c' (s.eraseIdx k) ∧ Below w.heap.size w w') := by
  obtain ⟨b, o, a0, c0, r0, ha, hlo, hhi, _⟩ := hs.at hk
  subst ha
  have hto := sliceToII (b := b) (o := o) (n := s.length) (c := c) (k := k) (z := (k : Int)) rfl (by omega)
  obtain ⟨o', ho', hfrom⟩ := sliceFromII (b := b) (o := o) (n := s.length) (c := c) (k := k + 1) (z := IntKind.i64.wrap ((k : Int) + 1)) (by rw [IntWalk.i64_in _ (by omega)]; omega) (by omega) hc
  have hbA := (Below.refl _ w).alloc (Nat.le_refl w.heap.size) (.cells #[.slice (some ⟨b, o, none⟩) k c, .slice (some ⟨b, o', none⟩) (s.length - (k + 1)) (c - (k + 1))] 49)
  have hs1 := hs.below hbA hB
  have HE : Hid (s.eraseIdx k = s.take k ++ s.drop (k + 1)) := List.eraseIdx_eq_take_drop_succ ..
  have hn := heap_alloc_new w (.cells #[.slice (some ⟨b, o, none⟩) k c, .slice (some ⟨b, o', none⟩) (s.length - (k + 1)) (c - (k + 1))] 49)
  obtain ⟨W, hW⟩ : ∃ W, w.alloc (.cells #[.slice (some ⟨b, o, none⟩) k c, .slice (some ⟨b, o', none⟩) (s.length - (k + 1)) (c - (k + 1))] 49) = W := ⟨_, rfl⟩
  have e1 : W.cell? ⟨w.heap.size, 0, none⟩ = some (.slice (some ⟨b, o, none⟩) k c) := by rw [← hW, cell_of_row _ w.heap.size 0 _ 49 (0, 0) hn]; rfl
  have e2 : W.cell? ⟨w.heap.size, 1, none⟩ = some (.slice (some ⟨b, o', none⟩) (s.length - (k + 1)) (c - (k + 1))) := by rw [← hW, cell_of_row _ w.heap.size 1 _ 49 (0, 0) hn]; rfl
  have hWs : w.heap.size < W.heap.size := by rw [← hW]; simp
  rw [hW] at hbA hs1
  have f1 := hs1.takeR k
  have f2 := hs1.dropR ho'
  have hcat := (x_ConcatII (w := W.drew) e1 e2 hWs (by simp; omega) (by simp) f1.drew f2.drew (by show lo ≤ W.heap.size; omega) (by show hi ≤ W.heap.size; omega) (by omega) (by omega))
  obtain ⟨l, hl⟩ : ∃ l, s.eraseIdx k = l := ⟨_, rfl⟩
  rw [← HE.out, hl] at hcat
  rw [hl]
  have HCAT := Lib.hid hcat
  clear hcat hl HE
  clear hn f1 f2 hs1 e1 e2 hs ho'
  go_enter Tryz.func89, Tryz.ntmps89
  go_wp2_with fail
  go_region_with ((go_at_call 107; refine HCAT.out.mono ?_; rintro e w1 ⟨a1, c1, rfl, h1, hb1⟩))
  have hbb : Below w.heap.size w w1 := hbA.trans (((Below.refl _ W).drew).trans (hb1.mono (by show _ ≤ W.heap.size; omega)))
  clear hb1 hbA HCAT
  go_wp2
  go_ret
  exact ⟨_, _, rfl, h1, hbb⟩

/- Walks: SpareTests, TrimSuite of the program. -/
open Go.RowKit

set_option maxHeartbeats 2000000 in
theorem i_isSpare {m : List Int} {s : List (List Int)} {a a' : Option Addr} {c c' lo hi lo' hi' k : Nat} {w : World} {t : Int} (hok : okM m = true) (hm : RI w lo hi a m) (hB : hi ≤ w.heap.size) (hs : RII w lo' hi' a' s) (hB' : hi' ≤ w.heap.size) (hsl : s.length ≤ 100000) (hcap : s.length ≤ c') (hr : ∀ r ∈ s, r.length = m.length) (ht0 : 0 ≤ t) (ht1 : t ≤ m.length) (hk : k < s.length) :
    Calls Tryz.prog 88 #[.slice a m.length c, .slice a' s.length c', .int .i64 t, .int .i64 (k : Int)] w (NewV w (.bool (spF m s t k))) := by
  have HOK := Lib.hid hok
  have HR := Lib.hid hr
  have hm5 := okM_len hok
  have HRE : Hid (∀ r ∈ s.eraseIdx k, r.length = m.length) := fun r h => hr r (List.mem_of_mem_eraseIdx h)
  have hel := List.length_eraseIdx_le s k
  have HLN := Lib.hid (misL_len (s := s.eraseIdx k) (t := t) hok)
  clear hok hr
  go_enter Tryz.func88, Tryz.ntmps88
  go_wp2_with fail
  refine (i_withoutII hs hB' hsl hcap hk).mono ?_
  rintro e w1 ⟨a1, c1, rfl, h1, hb1⟩
  have hz1 := hb1.size
  have hm1 := hm.below hb1 hB
  have hs1 := hs.below hb1 hB'
  go_wp2_with fail
  refine (i_missingPatterns HOK.out hm1 (by omega) h1.rii (Nat.le_refl _) (by omega) HRE.out ht0 ht1).mono ?_
  rintro e w2 ⟨v2, rfl, h2, hb2⟩
  have hz2 := hb2.size
  obtain ⟨a2, c2, rfl, _⟩ := h2.at
  have hm2 := hm1.below hb2 (by omega)
  have hs2 := hs1.below hb2 (by omega)
  have hb02 := hb1.trans (hb2.mono hz1)
  obtain ⟨q, hq⟩ : ∃ q, (misL m (s.eraseIdx k) t).length = q := ⟨_, rfl⟩
  obtain ⟨n, hn⟩ : ∃ n, (misL m s t).length = n := ⟨_, rfl⟩
  have HS : Hid (((q : Int) == (n : Int)) = spF m s t k) := by
    show _ = _
    unfold spF
    rw [hq, hn, Bool.eq_iff_iff, beq_iff_eq, beq_iff_eq]
    omega
  rw [hq]
  have HN := Lib.hid hn
  clear hq hn h2 h1 hs hm hb1 hb2
  go_wp2_with fail
  refine (i_missingPatterns HOK.out hm2 (by omega) hs2 (by omega) (by omega) HR.out ht0 ht1).mono ?_
  rintro e w3 ⟨v3, rfl, h3, hb3⟩
  obtain ⟨a3, c3, rfl, _⟩ := h3.at
  rw [HN.out]
  have hb03 := hb02.trans (hb3.mono (by omega))
  clear h3
  go_wp2
  go_ret
  exact ⟨by rw [HS.out]; rfl, hb03⟩

theorem spF_trG {m : List Int} {l : List (List Int)} {t : Int} {k : Nat} : (if misN m t (l.eraseIdx k) = misN m t l then l.eraseIdx k else l) = if spF m l t k then l.eraseIdx k else l := by
  unfold spF misN
  by_cases h : (misL m (l.eraseIdx k) t).length = (misL m l t).length
  · rw [if_pos h, if_pos (by rw [h]; simp)]
  · rw [if_neg h, if_neg (by simpa using h)]

set_option maxRecDepth 100000 in
set_option maxHeartbeats 2000000 in
theorem i_TrimSuite {m : List Int} {s : List (List Int)} {a a' : Option Addr} {c c' lo hi lo' hi' : Nat} {w : World} {t : Int} (hm : RI w lo hi a m) (hlm : m.length ≤ 9223372036854775807) (hs : RII w lo' hi' a' s) (hls : s.length ≤ 9223372036854775807) (hg : ∀ r ∈ s, r.length ≤ 9223372036854775807) (_ht0 : -9223372036854775808 ≤ t) (_ht1 : t ≤ 9223372036854775807) (hcap : s.length ≤ c') (hB : hi ≤ w.heap.size) (hB' : hi' ≤ w.heap.size) :
    Calls Tryz.prog 72 #[.slice a m.length c, .slice a' s.length c', .int .i64 t] w (NewII w (trL m s t)) := by
  have HG := Lib.hid hg; clear hg
  cases hc : okC m s t
  · have HC := Lib.hid hc; clear hc
    go_enter Tryz.func72, Tryz.ntmps72
    go_wp2_with fail
    refine (i_canCover hm hlm hs hls HG.out).mono ?_
    rintro e w1 ⟨rfl, hd⟩
    rw [HC.out]
    go_wp2
    go_ret
    exact NewII.none (tr_no HC.out) (Dr.below hd _)
  have hp := okC_parts hc
  have HR := Lib.hid hp.2.2.2
  have hsl := hp.2.2.1
  have ht := hp.2.1
  have HOK := Lib.hid hp.1
  have hm5 := okM_len hp.1
  have HC := Lib.hid hc; clear hc hp
  have HTR := Lib.hid (tr_yes HC.out)
  go_enter Tryz.func72, Tryz.ntmps72
  go_wp2_with fail
  refine (i_canCover hm hlm hs hls HG.out).mono ?_
  rintro e w1 ⟨rfl, hd⟩
  rw [HC.out]
  have hz1 := Dr.le hd
  have h3 : RIIc w1 0 w1.heap.size a' c' s := ⟨(hs.dr hd).wide (Nat.zero_le _) (by omega), hcap⟩
  go_wp2
  go_loopw [7, 8] (fun v i wr => ∃ (k : Nat) (ao : Option Addr) (co : Nat) (l : List (List Int)), k ≤ l.length ∧ l.length ≤ 20 ∧ (∃ z : Int, i = .int .i64 z ∧ z + 1 ≤ k ∧ k ≤ z + 1) ∧ v = .slice ao l.length co ∧ RIIc wr 0 wr.heap.size ao co l ∧ Below w1.heap.size w1 wr ∧ Hid (trG (misN m t) k l = trG (misN m t) s.length s ∧ ∀ r ∈ l, r.length = m.length)) (fun _ i _ => (intOf i + 1).toNat)
  case atStart => exact ⟨s.length, a', c', s, Nat.le_refl _, hsl, ⟨_, rfl, by omega, by omega⟩, rfl, h3, Below.refl _ _, rfl, HR.out⟩
  case round =>
    clear h3
    obtain ⟨k, ao, co, l, hk, hl20, ⟨z, rfl, hz5, hz6⟩, rfl, hown, hBl, hI⟩ := hrel
    have hsz := hBl.size
    by_cases hlt : 0 < k
    · obtain ⟨j, rfl⟩ : ∃ j, k = j + 1 := ⟨k - 1, by omega⟩
      obtain rfl : z = (j : Int) := by omega
      clear hz5 hz6
      have hm2 := (hm.dr hd).below hBl (by omega)
      have hjl : j ≤ (l.eraseIdx j).length := by rw [List.length_eraseIdx_of_lt (by omega)]; omega
      have hel := List.length_eraseIdx_le l j
      have HT := Lib.hid (trG_step (misN m t) j l)
      have HRE : Hid (∀ r ∈ l.eraseIdx j, r.length = m.length) := fun r h => hI.out.2 r (List.mem_of_mem_eraseIdx h)
      go_wp2_with fail
      refine (i_isSpare HOK.out hm2 (by omega) hown.rii (Nat.le_refl _) (by omega) hown.cap hI.out.2 ht.1 ht.2 (by omega)).mono ?_
      rintro e w4 ⟨rfl, hb4⟩
      have hz4 := hb4.size
      have hown4 : RIIc w4 0 w4.heap.size ao co l := (hown.below hb4 (Nat.le_refl _)).wide (Nat.le_refl _) hz4
      have hBl4 := hBl.trans (hb4.mono hsz)
      clear hown hb4 hBl hm2
      cases hsp : spF m l t j
      · have HI2 : Hid (trG (misN m t) j l = trG (misN m t) s.length s ∧ ∀ r ∈ l, r.length = m.length) := by
          refine ⟨?_, hI.out.2⟩
          rw [← hI.out.1, HT.out, spF_trG, hsp]; rfl
        clear hsp
        go_wp2
        go_roundw
        case rel => exact ⟨j, ao, co, l, by omega, by omega, ⟨_, rfl, by omega, by omega⟩, rfl, hown4, hBl4, HI2⟩
        case measure => simp [intOf]
      · have HI2 : Hid (trG (misN m t) j (l.eraseIdx j) = trG (misN m t) s.length s ∧ ∀ r ∈ l.eraseIdx j, r.length = m.length) := by
          refine ⟨?_, HRE.out⟩
          rw [← hI.out.1, HT.out, spF_trG, hsp]; rfl
        clear hsp
        go_wp2_with fail
        refine (i_withoutII hown4.rii (Nat.le_refl _) (by omega) hown4.cap (by omega)).mono ?_
        rintro e w5 ⟨a5, c5, rfl, h5, hb5⟩
        have hBl5 := hBl4.trans (hb5.mono (by omega))
        clear hown4 hb5 hBl4
        go_wp2
        go_roundw
        case rel => exact ⟨j, a5, c5, l.eraseIdx j, by omega, by omega, ⟨_, rfl, by omega, by omega⟩, rfl, h5, hBl5, HI2⟩
        case measure => simp [intOf]
    · have HKE : Hid (l = trL m s t) := by
        have : k = 0 := by omega
        subst this
        show _ = _
        rw [HTR.out, ← hI.out.1]; rfl
      obtain rfl : z = -1 := by omega
      have HRN : Hid (∀ r ∈ l, r ≠ [] ∧ r.length ≤ 1048576) := by
        intro r hr
        have := hI.out.2 r hr
        exact ⟨by intro e; rw [e] at this; simp at this; omega, by omega⟩
      go_wp2_with fail
      refine (i_copyLists hown.rii (Nat.le_refl _) (by omega) HRN.out).mono ?_
      rintro e w6 ⟨a6, c6, rfl, h6, hb6⟩
      have hbb := (Dr.below hd w.heap.size).trans ((hBl.trans (hb6.mono hsz)).mono (by omega))
      rw [HKE.out] at h6 ⊢
      clear hown hb6 hBl HKE
      go_wp2
      go_ret
      exact ⟨_, _, rfl, h6.wide (by omega) (Nat.le_refl _), hbb⟩

end Go.Proofs.YtpioldgpfpmjiaaGreatDoor
