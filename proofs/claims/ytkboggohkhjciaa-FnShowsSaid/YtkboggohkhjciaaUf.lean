/- Walks: what runs show and hide, by the model. -/
import Derived.Test.YtkboggohkhjciaaUe
import Derived.Test.YtkboggohkhjciaaWq
namespace Go.Proofs.Ytkboggohkhjciaa
open Go Go.RowKit

set_option maxRecDepth 100000 in
set_option maxHeartbeats 1000000 in
theorem s_shows {run l : List Int} {a a' : Option Addr} {c c' lo hi lo' hi' : Nat} {w : World} (hm : RI w lo hi a run) (hl : RI w lo' hi' a' l) (h1 : run.length ≤ 9223372036854775807) (h2 : l.length ≤ 9223372036854775807) :
    Calls Try.prog 53 #[.slice a run.length c, .slice a' l.length c'] w (RO w (.bool (shB run l))) := by
  go_enter Try.func53, Try.ntmps53
  go_wp2
  go_loopw [5, 6] (fun kv iv wr => ∃ k i : Nat, k ≤ l.length ∧ i ≤ run.length ∧ kv = .int .i64 k ∧ iv = .int .i64 i ∧ Dr w wr ∧ Hid (shB (run.drop i) (l.drop k) = shB run l)) (fun _ iv _ => run.length - (intOf iv).toNat)
  case atStart => exact ⟨0, 0, Nat.zero_le _, Nat.zero_le _, rfl, rfl, Dr.refl _, by simp [Hid]⟩
  case round =>
    obtain ⟨k, i, hk, hi, rfl, rfl, hd, hS⟩ := hrel
    by_cases hlt : i < run.length
    · by_cases hkl : k < l.length
      · obtain ⟨b1, o1, x, ha1, _, _, hc1, hx⟩ := (hm.dr hd).at hlt
        obtain ⟨b2, o2, y, ha2, _, _, hc2, hy⟩ := (hl.dr hd).at hkl
        have hi1 := idxI ha1 hlt c
        have hi2 := idxI ha2 hkl c'
        have HST := Lib.hid (sh_step hx.out hy.out)
        clear ha1 ha2 hx hy hm hl
        by_cases hxy : x = y
        · have heq : (x == y) = true := by rw [hxy]; exact beq_self_eq_true _
          have HN : Hid (shB (run.drop (i + 1)) (l.drop (k + 1)) = shB run l) := by show _ = _; have := HST.out; rw [if_pos hxy] at this; rw [← this, hS.out]
          clear hxy
          go_wp2_with fail
          go_quiet (fail)
          go_wp2
          go_roundw
          case rel => exact ⟨k + 1, i + 1, by omega, by omega, by go_num, by go_num, hd.drewN _, HN⟩
          case measure => simp [intOf]; omega
        · have heq : (x == y) = false := beq_eq_false_iff_ne.2 hxy
          have HN : Hid (shB (run.drop (i + 1)) (l.drop k) = shB run l) := by show _ = _; have := HST.out; rw [if_neg hxy] at this; rw [← this, hS.out]
          clear hxy
          go_wp2_with fail
          go_quiet (fail)
          go_wp2
          go_roundw
          case rel => exact ⟨k, i + 1, by omega, by omega, rfl, by go_num, hd.drewN _, HN⟩
          case measure => simp [intOf]; omega
      · have HE : Hid (shB run l = decide (k = l.length)) := by show _ = _; rw [← hS.out]; exact sh_end hk (.inr (by omega))
        go_wp2
        go_ret
        exact hd.boolD (by rw [HE.out, Bool.eq_iff_iff]; simp; omega)
    · have HE : Hid (shB run l = decide (k = l.length)) := by show _ = _; rw [← hS.out]; exact sh_end hk (.inl (by omega))
      go_wp2
      go_ret
      exact hd.boolD (by rw [HE.out, Bool.eq_iff_iff]; simp; omega)

def LsOK (n t k : Nat) : Prop := ∀ (head : List Int) (hd : Addr) (c' lo' hi' : Nat) (w : World), head.length + k = t → RI w lo' hi' (some hd) head → hi' ≤ w.heap.size →
    Calls Try.prog 47 #[.slice (some hd) head.length c', .int .i64 (n : Int), .int .i64 (t : Int)] w (NewIIs w (lsN n k [head]))

set_option maxRecDepth 100000 in
set_option maxHeartbeats 4000000 in
theorem s_lists {n t : Nat} (hn5 : n ≤ 5) (ht5 : t ≤ 5) : ∀ k, LsOK n t k := by
  intro k
  induction k with
  | zero =>
    intro head hd c' lo' hi' w hn hh hB'
    have HE : Hid (head.length = t) := by show _ = _; omega
    have hlen : ((head.length : Int) == (t : Int)) = true := by rw [beq_iff_eq]; omega
    have hh5 : head.length ≤ 5 := by omega
    clear hn
    have HP : Hid (lsN n 0 [head] = [head]) := rfl
    have hst := OwnL.made w w.heap.size (Nat.le_refl _)
    have hhs := hh.below ((Below.refl _ w).alloc (Nat.le_refl _) (.cells #[] 3)) hB'
    go_enter Try.func47, Try.ntmps47
    go_wp2_with (at_builtin; refine wpList_appS rfl _ _ rfl w.heap.size _ [] rfl hst head lo' hi' c' _ rfl hhs (by simp) (by omega) (by simp) ?_; intro v' w1 hown1 hb1; simp only [List.nil_append] at hown1; obtain ⟨a1, c1, rfl, ho1⟩ := hown1.slice)
    go_ret
    rw [HP.out]
    have hB1 := ((Below.refl _ w).alloc (Nat.le_refl _) (.cells #[] 3)).trans hb1
    refine ⟨_, _, rfl, ?_, hB1.alloc hB1.size _⟩
    have h9 := OII.one (c := c1) (t := 29) ho1 hB1.size (Nat.le_refl _)
    exact ⟨by simpa using h9, by simp⟩
  | succ k ih =>
    intro head hd c' lo' hi' w hn hh hB'
    have HN := Lib.hid hn
    have hk5 : k ≤ 5 := by omega
    have hh5 : head.length ≤ 5 := by omega
    have HK := Lib.hid (fun x => lsK_len (head := head) hn5 hk5 x)
    have HS := Lib.hid (fun (h : List Int) => lsN_len5 (head := h) hn5 hk5)
    have HALL := Lib.hid (lsK_all n k head)
    have hlen : ((head.length : Int) == (t : Int)) = false := by rw [beq_eq_false_iff_ne]; omega
    have hst := OwnLL.made w w.heap.size (Nat.le_refl _)
    clear hn
    go_enter Try.func47, Try.ntmps47
    go_wp2
    clear hlen
    go_loopw [7, 8, 9, 10] (fun v i _ _ wr => ∃ x : Nat, x ≤ n ∧ i = .int .i64 x ∧ OwnLL wr w.heap.size v (lsK n k head x) ∧ Below w.heap.size w wr ∧ w.heap.size + 1 ≤ wr.heap.size ∧ Hid (v ≠ .slice none 0 0)) (fun _ i _ _ _ => n - (intOf i).toNat)
    case atStart => exact ⟨0, Nat.zero_le _, rfl, by simpa [lsK] using hst, (Below.refl _ _).alloc (Nat.le_refl _) _, by simp, by simp [Hid]⟩
    case round =>
      clear hst
      obtain ⟨x, hx, rfl, hown, hBl, hsz, hnn⟩ := hrel
      obtain ⟨wo, rfl⟩ : ∃ z : World, z = wr := ⟨_, rfl⟩
      have hh1 := hh.below hBl hB'
      by_cases hlt : x < n
      · go_wp2
        go_loopw [9, 10] (fun u j wr => ∃ q : Nat, q ≤ head.length ∧ j = .int .i64 q ∧ u = .bool (decide ((x : Int) ∈ head.take q)) ∧ wr = wo) (fun _ j _ => head.length - (intOf j).toNat)
        case atStart => exact ⟨0, Nat.zero_le _, rfl, by simp, rfl⟩
        case round =>
          obtain ⟨q, hq, rfl, rfl, rfl⟩ := hrel
          by_cases hql : q < head.length
          · obtain ⟨b2, o2, y, ha2, _, _, hc2, hy⟩ := hh1.at hql
            have hi2 := idxI ha2 hql c'
            have HT : Hid (decide ((x : Int) ∈ head.take (q + 1)) = (decide ((x : Int) ∈ head.take q) || (y == (x : Int)))) := by
              show _ = _; rw [take_snoc hy.out, Bool.eq_iff_iff]; simp only [List.mem_append, List.mem_singleton, decide_eq_true_eq, Bool.or_eq_true, beq_iff_eq]
              exact ⟨fun h => h.elim .inl fun h => .inr h.symm, fun h => h.elim .inl fun h => .inr h.symm⟩
            clear ha2 hy
            cases hu : decide ((x : Int) ∈ head.take q)
            · have HU := Lib.hid hu; clear hu
              have HT2 : Hid (decide ((x : Int) ∈ head.take (q + 1)) = (y == (x : Int))) := by show _ = _; rw [HT.out, HU.out, Bool.false_or]
              go_wp2
              go_roundw
              case rel => exact ⟨q + 1, by omega, by go_num, by rw [HT2.out], (by first | rfl | trivial)⟩
              case measure => simp [intOf]; omega
            · have HU := Lib.hid hu; clear hu
              have HT2 : Hid (decide ((x : Int) ∈ head.take (q + 1)) = true) := by show _ = _; rw [HT.out, HU.out, Bool.true_or]
              go_wp2
              go_roundw
              case rel => exact ⟨q + 1, by omega, by go_num, by rw [HT2.out], (by first | rfl | trivial)⟩
              case measure => simp [intOf]; omega
          · have HTK : Hid (decide ((x : Int) ∈ head.take q) = head.contains (x : Int)) := by
              show _ = _; rw [List.take_of_length_le (by omega)]; simp
            rw [HTK.out]
            cases hc : head.contains (x : Int)
            · have HC := Lib.hid hc
              have HKY := Lib.hid (lsK_yes (n := n) (t := k) hc)
              clear hc
              have hstr := OwnL.made wr wr.heap.size (Nat.le_refl _)
              have hhs := hh1.below ((Below.refl wr.heap.size wr).alloc (Nat.le_refl _) (.cells #[] 3)) (by omega)
              have hkl : (lsK n k head x).length ≤ 1099511627776 := by have := HK.out x; omega
              have HL := Lib.hid (show ∀ l' : List Int, l' = head ++ [(x : Int)] → l'.length + k = t ∧ l' ≠ [] from fun l' e => by subst e; have := HN.out; simp; omega)
              go_wp2_with (first
                | (at_builtin; refine wpList_appS rfl (.tmp 43) (.tmp 44) rfl wr.heap.size _ [] rfl hstr head lo' hi' c' _ rfl hhs (by simp) (by omega) (by simp) ?_; intro v1 w1 hown1 hb1; have hb01 := chain1 hb1; have hs01 := hb01.size; simp only [List.nil_append] at hown1; clear hb1)
                | (at_builtin; refine wpList_app1 rfl (.tmp 45) (.tmp 47) rfl wr.heap.size _ head rfl hown1 (x : Int) rfl (by omega) hs01 ?_; intro v2 w2 hown2 hb2; have hb02 := hb01.trans hb2; have hs02 := hb02.size; obtain ⟨h2, EH2, hown2⟩ := named hown2; obtain ⟨ad2, c2, rfl, ho2⟩ := hown2.some (HL.out _ EH2.out).2; clear hown1 hb01 hs01 hb2 hown2)
                | (go_at_call 47; refine (ih h2 ad2 c2 wr.heap.size w2.heap.size w2 (HL.out _ EH2.out).1 ho2.ri (Nat.le_refl _)).mono ?_; rintro e w3 ⟨ad3, c3, rfl, h3, hb3⟩; obtain ⟨A3, C3, G3, hf3, hc3⟩ := Fam.ofOII h3.oii)
                | (at_builtin; refine wpList_appLL (W0 := w2) rfl (.tmp 42) (.tmp 51) rfl w.heap.size _ (lsK n k head x) (lsN n k [h2]) rfl (hown.below hb02) hb3 (by omega) ad3 _ c3 rfl rfl A3 C3 G3 hf3 hc3 hkl (Nat.le_trans (HS.out h2) (by omega)) ?_; intro v4 w4 hown4 hb4 hnn4)
                | go_in)
              have hs3 := hb3.size
              have hBl4 := ((hBl.trans (hb02.mono (by omega))).trans (hb3.mono (by omega))).trans hb4
              have hs4 := hb4.size
              have HO : Hid (OwnLL w4 w.heap.size v4 (lsK n k head (x + 1))) := by show OwnLL _ _ _ _; rw [HKY.out, ← EH2.out]; exact hown4
              have hnn4' : Hid (v4 ≠ .slice none 0 0) := hnn4.out hnn.out
              clear hown4 hb4 hb3 hb02 hBl hown
              go_roundw
              case rel => exact ⟨x + 1, by omega, by go_num, HO.out, hBl4, by omega, hnn4'⟩
              case measure => simp [intOf]; omega
            · have HC := Lib.hid hc
              have HKN := Lib.hid (lsK_no (n := n) (t := k) hc)
              clear hc
              rw [← HKN.out] at hown
              go_wp2
              go_roundw
              case rel => exact ⟨x + 1, by omega, by go_num, hown, hBl, by omega, hnn⟩
              case measure => simp [intOf]; omega
      · have HXN : Hid (x = n) := by show _ = _; omega
        rw [HXN.out, HALL.out] at hown
        obtain ⟨ad4, c4, hv, ho4⟩ := hown.some hnn.out
        have HV := Lib.hid hv
        clear hv hown
        go_wp2
        go_ret
        have hv := HV.out
        cases hv
        exact ⟨ad4, c4, rfl, ho4, hBl⟩

theorem unF_step {runs : List (List Int)} {l : List Int} {k : Nat} {r : List Int} (hx : runs[k]? = some r) : ((runs.take (k + 1)).any fun r => shB r l) = (((runs.take k).any fun r => shB r l) || shB r l) := by
  rw [take_snoc hx]; simp
theorem OwnIx.made (w : World) (B : Nat) (hB : B ≤ w.heap.size) : OwnIx (w.alloc (.cells #[] 29)) B (.slice (some ⟨w.heap.size, 0, none⟩) 0 0) [] :=
  World.ownsRow_made w #[] 0 hB (by simp [maxLen]) rfl

theorem OII.parts {w : World} {lo hi : Nat} {a : Option Addr} {mm : List (List Int)} (h : OII w lo hi a mm) : ∃ (A : Nat → Option Addr) (C G : Nat → Nat), Fam w lo hi A G mm ∧ (∀ k r, mm[k]? = some r → r.length ≤ C k) ∧ ∀ k r, mm[k]? = some r → ∃ g o, a = some ⟨g, o, none⟩ ∧ g < hi ∧ w.cell? ⟨g, o + k, none⟩ = some (.slice (A k) r.length (C k)) := by
  rcases h with rfl | ⟨b, o, A, C, G, ha, h⟩
  · exact ⟨fun _ => none, fun _ => 0, fun _ => 0, Fam.nil _ _ _ _ _, by simp, by simp⟩
  · exact ⟨A, C, G, h.fam, h.cap, fun k r hk => ⟨b, o, ha, h.bhi, h.cell k r hk⟩⟩

set_option maxRecDepth 100000 in
set_option maxHeartbeats 4000000 in
theorem s_unseen {runs mm : List (List Int)} {a a' : Option Addr} {c c' lo hi lo' hi' : Nat} {w : World} (hr : RII w lo' hi' a' runs) (hB' : hi' ≤ w.heap.size) (hm : OIIc w lo hi a c mm) (hB : hi ≤ w.heap.size) (hlo : lo ≤ w.heap.size) (hl : mm.length ≤ 1048576) (hrl : runs.length ≤ 1048576) (hr5 : ∀ r ∈ runs, r.length ≤ 1048576) (hl5 : ∀ l ∈ mm, l.length ≤ 1048576) :
    Calls Try.prog 57 #[.slice a' runs.length c', .slice a mm.length c] w (fun e w' => ∃ a2 c2, e = .returned (.slice a2 (unA runs mm).length c2) ∧ OIIc w' lo w'.heap.size a2 c2 (unA runs mm) ∧ Below w.heap.size w w') := by
  have HR5 := Lib.hid hr5; have HL5 := Lib.hid hl5
  obtain ⟨q, hq⟩ : ∃ q : List Int → Bool, unF runs = q := ⟨_, rfl⟩
  have HQ : Hid (∀ l, (!(runs.any fun r => shB r l)) = q l) := fun l => by rw [← hq]; rfl
  have HU : Hid (unA runs mm = mm.filter q) := by show _ = _; rw [← hq]; rfl
  obtain ⟨A, C, G, hfam, hcap, hcel⟩ := hm.oii.parts
  have HFAM := Lib.hid hfam; have HCAP := Lib.hid hcap; have HCEL := Lib.hid hcel
  obtain ⟨M, hM⟩ : ∃ M, mm.length = M := ⟨_, rfl⟩
  have HM := Lib.hid hM
  rw [hM] at hl ⊢
  have hst := OwnIx.made w w.heap.size (Nat.le_refl _)
  clear hM hm hr5 hl5 hq hfam hcap hcel
  go_enter Try.func57, Try.ntmps57
  go_wp2
  go_loopw [5, 6, 7, 8] (fun v i _ _ wr => ∃ k : Nat, k ≤ M ∧ i = .int .i64 k ∧ OwnIx wr w.heap.size v ((ixF q mm k).map (rowV A C mm)) ∧ Below w.heap.size w wr) (fun _ i _ _ _ => M - (intOf i).toNat)
  case atStart => exact ⟨0, Nat.zero_le _, rfl, by simpa [ixF] using hst, (Below.refl _ _).alloc (Nat.le_refl _) _⟩
  case round =>
    clear hst
    obtain ⟨k, hk, rfl, hown, hd⟩ := hrel
    have hz := hd.size
    obtain ⟨wo, rfl⟩ : ∃ z : World, z = wr := ⟨_, rfl⟩
    by_cases hlt : k < M
    · obtain ⟨l, hx⟩ := at_of_lt (show k < mm.length by have := HM.out; omega)
      obtain ⟨g, o, ha, hg, hcell0⟩ := HCEL.out k l hx
      subst ha
      have hcell := (hd.cell (p := ⟨g, o + k, none⟩) (by show g < _; omega)).trans hcell0
      have hidx := idxII (a := some ⟨g, o, none⟩) rfl hlt c
      have hri : RI wo lo hi (A k) l := by
        by_cases hne : l = []
        · subst hne; exact RI.nil _ _ _ _
        · have h1 := HFAM.out.rlo k l hx hne
          exact ((HFAM.out.row k l hx).ri.wide (lo' := lo) (hi' := hi) h1.1 (by omega)).below hd hB
      have hll := HL5.out l (List.mem_of_getElem? hx)
      have hr1 := hr.below hd hB'
      have HX := Lib.hid hx
      have hgs : g < wo.heap.size := by omega
      clear hx hcell0
      go_wp2
      clear hidx hcell
      go_loopw [7, 8] (fun u j wr => ∃ p : Nat, p ≤ runs.length ∧ j = .int .i64 p ∧ u = .bool ((runs.take p).any fun r => shB r l) ∧ Dr wo wr) (fun _ j _ => runs.length - (intOf j).toNat)
      case atStart => exact ⟨0, Nat.zero_le _, rfl, by simp, Dr.refl _⟩
      case round =>
        obtain ⟨p, hp, rfl, rfl, hdr⟩ := hrel
        by_cases hpl : p < runs.length
        · obtain ⟨b2, o2, a3, c3, r, ha2, _, hb2, hc2, hrr, hy⟩ := (hr1.dr hdr).at hpl
          have hi2 := idxII ha2 hpl c'
          have hidx := idxII (a := some ⟨g, o, none⟩) rfl hlt c
          have hcell : wr.cell? ⟨g, o + k, none⟩ = some (.slice (A k) l.length (C k)) := by
            obtain ⟨g', o', ha', _, hc'⟩ := HCEL.out k l HX.out
            obtain ⟨rfl, rfl⟩ : g = g' ∧ o = o' := by simpa using ha'
            exact (Dr.below hdr wo.heap.size).cell (p := ⟨g, o + k, none⟩) hgs |>.trans ((hd.cell (p := ⟨g, o + k, none⟩) (by show g < _; omega)).trans hc')
          have hri2 := hri.dr hdr
          have hrl2 := HR5.out r (List.mem_of_getElem? hy.out)
          have HST := Lib.hid (unF_step (l := l) hy.out)
          obtain ⟨D, hD⟩ : ∃ D, shB r l = D := ⟨_, rfl⟩
          have HC : Hid (∀ nn, Calls Try.prog 53 #[.slice a3 r.length c3, .slice (A k) l.length (C k)] (wr.drewN nn) (RO (wr.drewN nn) (.bool D))) := fun nn => by
            rw [← hD]
            exact s_shows (hrr.dr ⟨nn, rfl⟩) (hri2.dr ⟨nn, rfl⟩) (by omega) (by omega)
          rw [hD] at HST
          clear ha2 hy hrr hri2 hD
          cases hu : ((runs.take p).any fun r => shB r l)
          · have HUU := Lib.hid hu; clear hu
            have HT : Hid (((runs.take (p + 1)).any fun r => shB r l) = D) := by show _ = _; rw [HST.out, HUU.out, Bool.false_or]
            go_wp2_with fail
            go_quiet (exact Calls.quiet_of (HC.out _))
            go_wp2
            go_roundw
            case rel => exact ⟨p + 1, by omega, by go_num, by rw [HT.out], hdr.drewN _⟩
            case measure => simp [intOf]; omega
          · have HUU := Lib.hid hu; clear hu
            have HT : Hid (((runs.take (p + 1)).any fun r => shB r l) = true) := by show _ = _; rw [HST.out, HUU.out, Bool.true_or]
            clear hidx hcell hi2 hc2 HC
            go_wp2_with fail
            go_quiet (fail)
            go_wp2
            go_roundw
            case rel => exact ⟨p + 1, by omega, by go_num, by rw [HT.out], hdr.drewN _⟩
            case measure => simp [intOf]; omega
        · have HTK : Hid ((runs.take p).any (fun r => shB r l) = !q l) := by
            show _ = _; rw [List.take_of_length_le (by omega), ← HQ.out l, Bool.not_not]
          rw [HTK.out]
          have hd2 := hd.trans (Dr.below hdr _)
          have hown2 := hown.below (Dr.below hdr _)
          have hil := ixF_len q mm k
          have hz2 := hd2.size
          have hgd : mm.getD k [] = l := by simp [List.getD, HX.out]
          cases hq : q l
          · have HI := Lib.hid (ixF_no HX.out hq)
            clear hq hgd hown hd hdr
            rw [← HI.out] at hown2
            go_wp2
            go_roundw
            case rel => exact ⟨k + 1, by omega, by go_num, hown2, hd2⟩
            case measure => simp [intOf]; omega
          · have HI : Hid ((ixF q mm k).map (rowV A C mm) ++ [.slice (A k) l.length (C k)] = (ixF q mm (k + 1)).map (rowV A C mm)) := by
              show _ = _; rw [ixF_yes HX.out hq, List.map_append]; simp [rowV, HX.out, List.getD]
            have hvl : ((ixF q mm k).map (rowV A C mm)).length ≤ 1099511627776 := by rw [List.length_map]; omega
            obtain ⟨vs, hvs⟩ : ∃ vs, (ixF q mm k).map (rowV A C mm) = vs := ⟨_, rfl⟩
            rw [hvs] at hown2 HI hvl
            have hidx := idxII (a := some ⟨g, o, none⟩) rfl hlt c
            have hcell : wr.cell? ⟨g, o + k, none⟩ = some (.slice (A k) l.length (C k)) := by
              obtain ⟨g', o', ha', _, hc'⟩ := HCEL.out k l HX.out
              obtain ⟨rfl, rfl⟩ : g = g' ∧ o = o' := by simpa using ha'
              exact (hd2.cell (p := ⟨g, o + k, none⟩) (by show g < _; omega)).trans hc'
            clear hvs hq hgd hown hd hdr hri hr1
            go_wp2_with (first
              | (at_builtin; refine wpList_appIx rfl _ _ rfl w.heap.size _ vs rfl hown2 _ _ _ rfl hvl (by omega) ?_; intro v6 w6 hown6 hb6)
              | go_in)
            rw [HI.out] at hown6
            have hd6 := hd2.trans hb6
            clear hown2 hb6 hd2
            go_roundw
            case rel => exact ⟨k + 1, by omega, by go_num, hown6, hd6⟩
            case measure => simp [intOf]; omega
    · have hkM : k = M := by omega
      have HKE : Hid (mm.take k = mm) := List.take_of_length_le (by have := HM.out; omega)
      have hml : k ≤ mm.length := by have := HM.out; omega
      have hfam : Fam wo lo hi A G mm := HFAM.out.same fun j r hj hne => hd.block _ (by have := HFAM.out.rlo j r hj hne; omega)
      obtain ⟨a2, c2, hv, ho2⟩ := hown.oii hml hfam HCAP.out hlo hB
      rw [HKE.out, ← HU.out] at hv ho2
      have HV := Lib.hid hv
      clear hv hown hkM hfam
      go_wp2
      go_ret
      have hv := HV.out
      cases hv
      exact ⟨_, _, rfl, ho2, hd⟩

end Go.Proofs.Ytkboggohkhjciaa
