/- Walks: GrowRuns of the model. -/
import Derived.Test.YtkboggohkhjciaaUm
namespace Go.Proofs.Ytkboggohkhjciaa
open Go Go.RowKit

theorem OIX.parts {w : World} {lo hi B c : Nat} {a : Option Addr} {mm : List (List Int)} (h : OIX w lo hi B a c mm) : ∃ (A : Nat → Option Addr) (C G : Nat → Nat), Fam w lo hi A G mm ∧ (∀ k r, mm[k]? = some r → r.length ≤ C k) ∧ ∀ k r, mm[k]? = some r → ∃ g o, a = some ⟨g, o, none⟩ ∧ g < w.heap.size ∧ w.cell? ⟨g, o + k, none⟩ = some (.slice (A k) r.length (C k)) := by
  rcases h.2 with rfl | ⟨g, o, A, C, G, ha, _, hgs, hce, hca, hfa, _⟩
  · exact ⟨fun _ => none, fun _ => 0, fun _ => 0, Fam.nil _ _ _ _ _, by simp, by simp⟩
  · exact ⟨A, C, G, hfa, hca, fun k r hk => ⟨g, o, ha, hgs, hce k r hk⟩⟩

set_option maxRecDepth 100000 in
set_option maxHeartbeats 4000000 in
theorem s_unseenX {runs mm : List (List Int)} {a a' : Option Addr} {c c' lo hi lo' hi' Bq : Nat} {w : World} (hr : RII w lo' hi' a' runs) (hB' : hi' ≤ w.heap.size) (hm : OIX w lo hi Bq a c mm) (hB : hi ≤ w.heap.size) (hl : mm.length ≤ 1048576) (hrl : runs.length ≤ 1048576) (hr5 : ∀ r ∈ runs, r.length ≤ 1048576) (hl5 : ∀ l ∈ mm, l.length ≤ 1048576) :
    Calls Try.prog 57 #[.slice a' runs.length c', .slice a mm.length c] w (fun e w' => ∃ a2 c2, e = .returned (.slice a2 (unA runs mm).length c2) ∧ OIX w' lo hi w.heap.size a2 c2 (unA runs mm) ∧ Below w.heap.size w w') := by
  have HR5 := Lib.hid hr5; have HL5 := Lib.hid hl5
  obtain ⟨q, hq⟩ : ∃ q : List Int → Bool, unF runs = q := ⟨_, rfl⟩
  have HQ : Hid (∀ l, (!(runs.any fun r => shB r l)) = q l) := fun l => by rw [← hq]; rfl
  have HU : Hid (unA runs mm = mm.filter q) := by show _ = _; rw [← hq]; rfl
  obtain ⟨A, C, G, hfam, hcap, hcel⟩ := hm.parts
  have HFAM := Lib.hid hfam; have HCAP := Lib.hid hcap; have HCEL := Lib.hid hcel
  obtain ⟨M, hM⟩ : ∃ M, mm.length = M := ⟨_, rfl⟩
  have HM := Lib.hid hM
  rw [hM] at hl ⊢
  have hst := OwnIx.made w w.heap.size (Nat.le_refl _)
  clear hM hm hr5 hl5 hq hfam hcap hcel
  go_enter Try.func57, Try.ntmps57
  go_wp2
  go_loopw [5, 6, 7, 8] (fun v i _ _ wr => ∃ k : Nat, k ≤ M ∧ i = .int .i64 k ∧ OwnIx wr w.heap.size v ((ixF q mm k).map (rowV A C mm)) ∧ Below w.heap.size w wr) (fun _ i _ _ _ => M - (intOf i).toNat)
  case atStart => exact ⟨0, Nat.zero_le _, rfl, by simpa [ixF] using hst, (Below.refl _ _).alloc (Nat.le_refl _) _⟩
  case round =>
    clear hst
    obtain ⟨k, hk, rfl, hown, hd⟩ := hrel
    have hz := hd.size
    obtain ⟨wo, rfl⟩ : ∃ z : World, z = wr := ⟨_, rfl⟩
    by_cases hlt : k < M
    · obtain ⟨l, hx⟩ := at_of_lt (show k < mm.length by have := HM.out; omega)
      obtain ⟨g, o, ha, hg, hcell0⟩ := HCEL.out k l hx
      subst ha
      have hcell := (hd.cell (p := ⟨g, o + k, none⟩) (by show g < _; omega)).trans hcell0
      have hidx := idxII (a := some ⟨g, o, none⟩) rfl hlt c
      have hri : RI wo lo hi (A k) l := by
        by_cases hne : l = []
        · subst hne; exact RI.nil _ _ _ _
        · have h1 := HFAM.out.rlo k l hx hne
          exact ((HFAM.out.row k l hx).ri.wide (lo' := lo) (hi' := hi) h1.1 (by omega)).below hd hB
      have hll := HL5.out l (List.mem_of_getElem? hx)
      have hr1 := hr.below hd hB'
      have HX := Lib.hid hx
      have hgs : g < wo.heap.size := by omega
      clear hx hcell0
      go_wp2
      clear hidx hcell
      go_loopw [7, 8] (fun u j wr => ∃ p : Nat, p ≤ runs.length ∧ j = .int .i64 p ∧ u = .bool ((runs.take p).any fun r => shB r l) ∧ Dr wo wr) (fun _ j _ => runs.length - (intOf j).toNat)
      case atStart => exact ⟨0, Nat.zero_le _, rfl, by simp, Dr.refl _⟩
      case round =>
        obtain ⟨p, hp, rfl, rfl, hdr⟩ := hrel
        by_cases hpl : p < runs.length
        · obtain ⟨b2, o2, a3, c3, r, ha2, _, hb2, hc2, hrr, hy⟩ := (hr1.dr hdr).at hpl
          have hi2 := idxII ha2 hpl c'
          have hidx := idxII (a := some ⟨g, o, none⟩) rfl hlt c
          have hcell : wr.cell? ⟨g, o + k, none⟩ = some (.slice (A k) l.length (C k)) := by
            obtain ⟨g', o', ha', _, hc'⟩ := HCEL.out k l HX.out
            obtain ⟨rfl, rfl⟩ : g = g' ∧ o = o' := by simpa using ha'
            exact (Dr.below hdr wo.heap.size).cell (p := ⟨g, o + k, none⟩) hgs |>.trans ((hd.cell (p := ⟨g, o + k, none⟩) (by show g < _; omega)).trans hc')
          have hri2 := hri.dr hdr
          have hrl2 := HR5.out r (List.mem_of_getElem? hy.out)
          have HST := Lib.hid (unF_step (l := l) hy.out)
          obtain ⟨D, hD⟩ : ∃ D, shB r l = D := ⟨_, rfl⟩
          have HC : Hid (∀ nn, Calls Try.prog 53 #[.slice a3 r.length c3, .slice (A k) l.length (C k)] (wr.drewN nn) (RO (wr.drewN nn) (.bool D))) := fun nn => by
            rw [← hD]
            exact s_shows (hrr.dr ⟨nn, rfl⟩) (hri2.dr ⟨nn, rfl⟩) (by omega) (by omega)
          rw [hD] at HST
          clear ha2 hy hrr hri2 hD
          cases hu : ((runs.take p).any fun r => shB r l)
          · have HUU := Lib.hid hu; clear hu
            have HT : Hid (((runs.take (p + 1)).any fun r => shB r l) = D) := by show _ = _; rw [HST.out, HUU.out, Bool.false_or]
            go_wp2_with fail
            go_quiet (exact Calls.quiet_of (HC.out _))
            go_wp2
            go_roundw
            case rel => exact ⟨p + 1, by omega, by go_num, by rw [HT.out], hdr.drewN _⟩
            case measure => simp [intOf]; omega
          · have HUU := Lib.hid hu; clear hu
            have HT : Hid (((runs.take (p + 1)).any fun r => shB r l) = true) := by show _ = _; rw [HST.out, HUU.out, Bool.true_or]
            clear hidx hcell hi2 hc2 HC
            go_wp2_with fail
            go_quiet (fail)
            go_wp2
            go_roundw
            case rel => exact ⟨p + 1, by omega, by go_num, by rw [HT.out], hdr.drewN _⟩
            case measure => simp [intOf]; omega
        · have HTK : Hid ((runs.take p).any (fun r => shB r l) = !q l) := by
            show _ = _; rw [List.take_of_length_le (by omega), ← HQ.out l, Bool.not_not]
          rw [HTK.out]
          have hd2 := hd.trans (Dr.below hdr _)
          have hown2 := hown.below (Dr.below hdr _)
          have hil := ixF_len q mm k
          have hz2 := hd2.size
          have hgd : mm.getD k [] = l := by simp [List.getD, HX.out]
          cases hq : q l
          · have HI := Lib.hid (ixF_no HX.out hq)
            clear hq hgd hown hd hdr
            rw [← HI.out] at hown2
            go_wp2
            go_roundw
            case rel => exact ⟨k + 1, by omega, by go_num, hown2, hd2⟩
            case measure => simp [intOf]; omega
          · have HI : Hid ((ixF q mm k).map (rowV A C mm) ++ [.slice (A k) l.length (C k)] = (ixF q mm (k + 1)).map (rowV A C mm)) := by
              show _ = _; rw [ixF_yes HX.out hq, List.map_append]; simp [rowV, HX.out, List.getD]
            have hvl : ((ixF q mm k).map (rowV A C mm)).length ≤ 1099511627776 := by rw [List.length_map]; omega
            obtain ⟨vs, hvs⟩ : ∃ vs, (ixF q mm k).map (rowV A C mm) = vs := ⟨_, rfl⟩
            rw [hvs] at hown2 HI hvl
            have hidx := idxII (a := some ⟨g, o, none⟩) rfl hlt c
            have hcell : wr.cell? ⟨g, o + k, none⟩ = some (.slice (A k) l.length (C k)) := by
              obtain ⟨g', o', ha', _, hc'⟩ := HCEL.out k l HX.out
              obtain ⟨rfl, rfl⟩ : g = g' ∧ o = o' := by simpa using ha'
              exact (hd2.cell (p := ⟨g, o + k, none⟩) (by show g < _; omega)).trans hc'
            clear hvs hq hgd hown hd hdr hri hr1
            go_wp2_with (first
              | (at_builtin; refine wpList_appIx rfl _ _ rfl w.heap.size _ vs rfl hown2 _ _ _ rfl hvl (by omega) ?_; intro v6 w6 hown6 hb6)
              | go_in)
            rw [HI.out] at hown6
            have hd6 := hd2.trans hb6
            clear hown2 hb6 hd2
            go_roundw
            case rel => exact ⟨k + 1, by omega, by go_num, hown6, hd6⟩
            case measure => simp [intOf]; omega
    · have hkM : k = M := by omega
      have HKE : Hid (mm.take k = mm) := List.take_of_length_le (by have := HM.out; omega)
      have hml : k ≤ mm.length := by have := HM.out; omega
      have hfam : Fam wo lo hi A G mm := HFAM.out.same fun j r hj hne => hd.block _ (by have := HFAM.out.rlo j r hj hne; omega)
      obtain ⟨a2, c2, hv, ho2⟩ := hown.oix hml hfam HCAP.out hB
      rw [HKE.out, ← HU.out] at hv ho2
      have HV := Lib.hid hv
      clear hv hown hkM hfam
      go_wp2
      go_ret
      have hv := HV.out
      cases hv
      exact ⟨_, _, rfl, ho2, hd⟩

theorem nwN_step {left : List (List Int)} {r l : List Int} {k : Nat} (hx : left[k]? = some l) : nwN (left.take (k + 1)) r = nwN (left.take k) r + (if shB r l then 1 else 0) := by
  rw [take_snoc hx]; unfold nwN; rw [List.countP_append]; simp [List.countP_cons]
theorem nwN_len (left : List (List Int)) (r : List Int) : nwN left r ≤ left.length := by unfold nwN; exact List.countP_le_length

set_option maxRecDepth 100000 in
set_option maxHeartbeats 2000000 in
theorem s_newIn {r : List Int} {left : List (List Int)} {a a' : Option Addr} {c c' lo hi lo' hi' : Nat} {w : World} (hr : RI w lo hi a r) (hm : RII w lo' hi' a' left) (hrl : r.length ≤ 1048576) (hl : left.length ≤ 1048576) (hll : ∀ l ∈ left, l.length ≤ 1048576) :
    Calls Try.prog 61 #[.slice a r.length c, .slice a' left.length c'] w (RO w (.int .i64 (nwN left r : Nat))) := by
  have HLL := Lib.hid hll; clear hll
  go_enter Try.func61, Try.ntmps61
  go_wp2
  go_loopw [5, 6] (fun v i wr => ∃ k : Nat, k ≤ left.length ∧ i = .int .i64 k ∧ v = .int .i64 (nwN (left.take k) r : Nat) ∧ Dr w wr) (fun _ i _ => left.length - (intOf i).toNat)
  case atStart => exact ⟨0, Nat.zero_le _, rfl, by simp [nwN], Dr.refl _⟩
  case round =>
    obtain ⟨k, hk, rfl, rfl, hd⟩ := hrel
    by_cases hlt : k < left.length
    · obtain ⟨b, o, a3, c3, l, ha, _, _, hcell, hlr, hx⟩ := (hm.dr hd).at hlt
      have hidx := idxII ha hlt c'
      have hl5 := HLL.out l (List.mem_of_getElem? hx.out)
      have HST := Lib.hid (nwN_step (r := r) hx.out)
      have hnl := nwN_len (left.take k) r
      have hnl2 : nwN (left.take k) r ≤ 1048576 := by simp at hnl; omega
      have hr2 := hr.dr hd
      have HC := Lib.hid (s_shows (c := c) (c' := c3) hr2 hlr (by omega) (by omega))
      obtain ⟨q, hq⟩ : ∃ q, nwN (left.take k) r = q := ⟨_, rfl⟩
      rw [hq] at HST hnl2
      rw [hq]
      clear ha hx hlr hnl hq hr2
      cases hs : shB r l
      · rw [hs] at HC
        have HN : Hid (nwN (left.take (k + 1)) r = q) := by show _ = _; rw [HST.out, hs]; rfl
        clear hs
        go_wp2_with fail
        refine HC.out.mono ?_
        rintro e w2 ⟨rfl, d2⟩
        have d2 : Dr wr w2 := d2
        have hd2 := hd.trans d2
        go_wp2
        go_roundw
        case rel => exact ⟨k + 1, by omega, by go_num, by rw [HN.out], hd2⟩
        case measure => simp [intOf]; omega
      · rw [hs] at HC
        have HN : Hid (nwN (left.take (k + 1)) r = q + 1) := by show _ = _; rw [HST.out, hs]; rfl
        have hwq : IntKind.i64.wrap ((q : Int) + 1) = ((q + 1 : Nat) : Int) := by rw [IntWalk.i64_in _ (by omega)]; omega
        clear hs
        go_wp2_with fail
        refine HC.out.mono ?_
        rintro e w2 ⟨rfl, d2⟩
        have d2 : Dr wr w2 := d2
        have hd2 := hd.trans d2
        go_wp2
        go_roundw
        case rel => exact ⟨k + 1, by omega, by go_num, by rw [HN.out]; go_num, hd2⟩
        case measure => simp [intOf]; omega
    · have HKE : Hid (left.take k = left) := List.take_of_length_le (by omega)
      rw [HKE.out]
      go_wp2
      go_ret
      exact hd.intD rfl

end Go.Proofs.Ytkboggohkhjciaa
