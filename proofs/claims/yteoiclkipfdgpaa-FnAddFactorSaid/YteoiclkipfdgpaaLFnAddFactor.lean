/- The walk of FnAddFactor: it returns true and writes nothing that was there. -/
import Derived.Test.YteoiclkipfdgpaaRi
import Derived.Test.YteoiclkipfdgpaaKh
import Derived.Test.YteoiclkipfdgpaaRl
import Derived.Test.YteoiclkipfdgpaaYf
import Derived.Test.YteoiclkipfdgpaaKa
import Derived.Test.YteoiclkipfdgpaaKc
namespace Go.Proofs.Yteoiclkipfdgpaa
open Go.RowKit

theorem ad_drop {m : List Int} {s : List (List Int)} {l t : Int} (h : adG m s l t = true) : ∀ (k : Nat) (r : List Int), s[k]? = some r → ∃ q : List Int, (adW m s l t)[k]? = some q ∧ q.eraseIdx m.length = r := by
  obtain ⟨h1, h2, h3, h4, h5, h6, h7⟩ := adG_m h
  intro k r hr
  have hlen : (adW m s l t).length = s.length := (wdG_len _ _ _).1
  obtain ⟨q, hq⟩ := at_of_lt (m := adW m s l t) (k := k) (by have := lt_of_at hr; omega)
  obtain ⟨x, y, hx, _, rfl⟩ := wdG_row l.toNat (by omega) _ _ k q hq
  have : x = r := by rw [hr] at hx; exact (Option.some.inj hx).symm
  subst this
  refine ⟨_, hq, ?_⟩
  have hxl := okW_len (okS_all h2 (List.mem_of_getElem? hr))
  rw [List.eraseIdx_append_of_length_le (by omega), hxl, Nat.sub_self]
  simp
/-- without the new factor it begins with the suite -/
theorem ad_begins {m : List Int} {s : List (List Int)} {l t : Int} (h : adB m s l t = true) : s.length ≤ (adL m s l t).length ∧ ((adL m s l t).map fun r => r.eraseIdx m.length).take s.length = s := by
  have hg : adG m s l t = true := by unfold adB at h; rw [Bool.and_eq_true] at h; exact h.1
  have hgs : gsB (adM m l) (adW m s l t) t = true := by unfold adB at h; rw [Bool.and_eq_true] at h; exact h.2
  have hA : adL m s l t = gsR (adM m l) (adW m s l t) t := by
    rw [(ad_eq hg).1]; unfold gsL; rw [hgs]; rfl
  obtain ⟨more, hm⟩ := grS_pre (extS (adM m l) []) (21 - (adW m s l t).length) (adW m s l t) (misL (adM m l) (adW m s l t) t)
  have hm : gsR (adM m l) (adW m s l t) t = adW m s l t ++ more := hm
  have hlen : (adW m s l t).length = s.length := (wdG_len _ _ _).1
  rw [hA, hm]
  refine ⟨by simp; omega, ?_⟩
  rw [List.map_append, List.take_append_of_le_length (by simp; omega), List.take_of_length_le (by simp; omega)]
  refine List.ext_getElem? fun k => ?_
  by_cases hk : k < s.length
  · obtain ⟨r, hr⟩ := at_of_lt hk
    obtain ⟨q, hq, he⟩ := ad_drop hg k r hr
    rw [List.getElem?_map, hq, Option.map_some, he, hr]
  · rw [List.getElem?_eq_none (by simp; omega), List.getElem?_eq_none (by omega)]


/-- what the law asks of a suite with one factor more -/
theorem af_facts {m : List Int} {s : List (List Int)} {l t : Int} (h : adB m s l t = true) : m ≠ [] ∧ icB (adM m l) (adL m s l t) t = true ∧ drB (adM m l) (adL m s l t) (m.length : Nat) = true ∧ s.length ≤ (adL m s l t).length ∧
    (drL (adM m l) (adL m s l t) (m.length : Nat)).length = (adL m s l t).length ∧ (drL (adM m l) (adL m s l t) (m.length : Nat)).take s.length = s := by
  have hg : adG m s l t = true := by unfold adB at h; rw [Bool.and_eq_true] at h; exact h.1
  have hgs : gsB (adM m l) (adW m s l t) t = true := by unfold adB at h; rw [Bool.and_eq_true] at h; exact h.2
  obtain ⟨h1, h2, h3, h4, h5, h6, h7⟩ := adG_m hg
  have hM := adM_ok h1 h3 h4 h5
  have hm1 := (okM_len h1).1
  have hf := gs_facts hgs
  rw [← (ad_eq hg).1] at hf
  have hic := hf.2.2.2.1
  have hb := ad_begins h
  have hoc : okC (adM m l) (adL m s l t) t = true := by unfold icB at hic; rw [Bool.and_eq_true] at hic; exact hic.1
  have hos : okS (adM m l) (adL m s l t) = true := by unfold okC at hoc; rw [Bool.and_eq_true, Bool.and_eq_true] at hoc; exact hoc.1.2
  have hml : (adM m l).length = m.length + 1 := by simp [adM]
  have hd : drB (adM m l) (adL m s l t) (m.length : Nat) = true := by
    unfold drB
    rw [hM, hos, decide_eq_true (by omega), inR_true.2 (by omega)]; rfl
  have he := (dr_yes hd).1
  rw [Int.toNat_natCast] at he
  refine ⟨by intro e; rw [e] at hm1; simp at hm1, hic, hd, hb.1, by rw [he, List.length_map], by rw [he]; exact hb.2⟩

theorem sliceToNilA {a : Option Addr} {c : Nat} (wx : World) : (Instr.slice 23 (.slice a 0 c) none (some (.int .i64 0)) none).run Try.prog wx = .ok (.slice a 0 c) wx := by
  rw [run_slice_h (P := Try.prog) (w := wx) 23 a 0 c undIIe .i64 0 (by omega) (by omega)]
  have hs := sizeI wx
  rw [elemII]
  cases a <;> simp [hs, Result.andThen, sliced, Addr.add]

theorem results_tmp4g {fn : Func} {t u v x : Tmp} (h : fn.results = #[.tmp t, .tmp u, .tmp v, .tmp x]) (tmps : Array Value) (P : Program) (w : World) :
    (results fn tmps).run P w = .ok (.tuple #[tmps.getD t undef, tmps.getD u undef, tmps.getD v undef, tmps.getD x undef]) w := by
  simp [results, h]

/-- a list, a suite and two numbers that a law has drawn -/
def DrA (w : World) (e : Ending) (w' : World) : Prop := ∃ (a1 : Option Addr) (c1 : Nat) (m : List Int) (a2 : Option Addr) (c2 : Nat) (s : List (List Int)) (f t : Int), e = .returned (.tuple #[.slice a1 m.length c1, .slice a2 s.length c2, .int .i64 f, .int .i64 t]) ∧ (Got w w' 10 a1 c1 m ∧ GotS w w' 12 a2 c2 s ∧ (0 ≤ f ∧ f ≤ 4) ∧ (-4 ≤ t ∧ t ≤ 6)) ∧ Below w.heap.size w w'

set_option maxRecDepth 100000 in
set_option maxHeartbeats 2000000 in
theorem s_DrawAddFactor {n : Nat} {a : Option Addr} {c : Nat} {w : World} (hm : RB w w.heap.size a n) (hc : n ≤ c) (hl : n ≤ 1048576) :
    Calls Try.prog 15 #[.slice a n c] w (DrA w) := by
  go_enter Try.func15, Try.ntmps15
  go_wp2_with fail
  refine (s_newReader hm hc hl).mono ?_
  rintro e w1 ⟨rfl, hr1, hb1⟩
  have hlt := hr1.lt
  go_wp2_with fail
  refine (s_goodModel hr1 (by omega)).mono ?_
  rintro e w2 ⟨a2, c2, m2, rfl, ho2, hL2, hr2, hU2⟩
  go_wp2_with fail
  refine (s_bentModel hr2 (by omega) ho2 rfl hL2 (by omega) hlt hU2.size).mono ?_
  rintro e w3 ⟨a3, c3, m3, rfl, ho3, hL3, hr3, hU3⟩
  have hU := hU2.trans hU3
  have hcap := ho3.cap.2
  have hs3 := hU.size
  clear ho2 hL2 hr2 hU2 hU3 hr1
  go_wp2_with fail
  refine (s_someSuite hr3 ho3 rfl hlt hs3 hL3 (by omega) (by omega)).mono ?_
  rintro e w4 ⟨a4, c4, s, rfl, ho4, hS4, hr4, hm4, hU4⟩
  have hs4 := hU4.size
  obtain ⟨a5, c5, e5, hR⟩ := ho4.riic
  cases e5
  have hUU := hU.trans hU4
  clear ho3 hr3 hU hU4 ho4
  have hlt4 : w.heap.size < w4.heap.size := by omega
  have hb4 := (Below.refl w4.heap.size w4).alloc (Nat.le_refl _) (.cells #[.int .i64 2, .int .i64 3, .int .i64 1, .int .i64 2, .int .i64 0, .int .i64 4] 3)
  have hr4b := hr4.below hb4 hlt4
  go_wp2_with fail
  refine (s_one hr4b (by omega) (litW w4 _ [2, 3, 1, 2, 0, 4] rfl) (by simp) (by simp) (.inr hlt4) (by simp)).mono ?_
  rintro e w5 ⟨f, rfl, hf, hr5, hu5⟩
  have hf5 : 0 ≤ f ∧ f ≤ 4 := by simp at hf; omega
  have hU5 := ((UpB.refl w.heap.size w4.heap.size w4).below hb4 (Nat.le_refl _)).upd hu5
  have hs5 := hU5.size
  have hm5 := hm4.upB hU5 (Nat.le_refl _) (Nat.le_refl _) hlt
  have hR5 : RIIc w5 w3.heap.size w4.heap.size a4 c4 s := ⟨hR.rii.same fun k h1 h2 => hU5.block k h2 h2 (by omega), hR.cap⟩
  have hU6 := hUU.trans (hU5.less (show w1.heap.size ≤ w4.heap.size by omega))
  clear hm4 hR hUU hU5 hr4 hf hb4 hu5 hr4b
  go_wp2_with fail
  refine (s_aStrength hr5 (by omega)).mono ?_
  rintro e w6 ⟨t, rfl, ht, hr6, hU7⟩
  have hs6 := hU7.size
  have hm6 := hm5.upB hU7 hs5 hs5 hlt
  have hR6 : RIIc w6 w3.heap.size w4.heap.size a4 c4 s := ⟨hR5.rii.same fun k h1 h2 => hU7.block k (by omega) (by omega) (by omega), hR5.cap⟩
  have hU8 := hU6.trans (hU7.less (show w1.heap.size ≤ w5.heap.size by omega))
  clear hm5 hR5 hU6 hU7 hr5
  go_wp2
  (try simp only [Exit.inBlock, Exit.then])
  refine bodyPost_ret (results_tmp4g rfl _ _ _) rfl ?_
  exact ⟨_, _, m3, _, _, s, f, t, rfl, ⟨⟨hm6.wide (by omega) (by omega), hL3, hcap⟩, ⟨hR6.wide (by omega) (by omega), hS4⟩, hf5, ht⟩, hb1.trans (hU8.toBelow (by omega) (by omega))⟩

set_option maxRecDepth 100000 in
set_option maxHeartbeats 8000000 in
theorem law_FnAddFactor {m0 : Nat} {a0 : Option Addr} {c0 : Nat} {w : World} (f0 : RB w w.heap.size a0 m0) (l0 : m0 ≤ c0) :
    Calls Try.prog 4 #[.slice a0 m0 c0] w (Tru w) := by
  by_cases hb : m0 ≤ 1048576
  case neg =>
    go_enter Try.func4, Try.ntmps4
    go_wp2
    go_ret
    exact ⟨rfl, Below.refl _ _⟩
  go_enter Try.func4, Try.ntmps4
  go_wp2_with fail
  refine (s_DrawAddFactor f0 l0 hb).mono ?_
  rintro e w1 ⟨a1, c1, m, a2, c2, s, l, t, rfl, ⟨hG, hS, ⟨hl0, hl1⟩, ht0, ht1⟩, B1⟩
  have z1 := B1.size
  have hm := hG.ri
  have hs := hS.ric
  have hl10 := hG.lp.1
  have hsl := hS.sq.1
  have scap := hS.ric.cap
  have HSR : Hid (∀ r ∈ s, r.length ≤ 12) := fun r h => (hS.sq.2 r h).1
  have HSG : Hid (∀ r ∈ s, r.length ≤ 9223372036854775807) := fun r h => by have := (hS.sq.2 r h).1; omega
  clear hG hS
  clear f0
  obtain ⟨L, hL⟩ : ∃ L, adL m s l t = L := ⟨_, rfl⟩
  obtain ⟨b, hB⟩ : ∃ b, adB m s l t = b := ⟨_, rfl⟩
  have HL := Lib.hid hL
  have HB := Lib.hid hB
  have HLN := @adL_len m s l t
  have HGR := Lib.hid (@adL_gr m s l t).2
  have HRW := Lib.hid (@adL_row m s l t)
  rw [hL] at HLN HGR HRW
  have heqL : eqII L L = true := eqII_true.2 rfl
  clear hL hB
  cases b
  · skip
    go_wp2_with fail
    refine (i_AddFactor hm (by omega) hs.rii (by omega) HSG.out (by omega) (by omega) (by omega) (by omega) (by omega) (by omega)).mono ?_
    rintro e w2 ⟨Aa, Ac, rfl, A, b2⟩
    have z2 := b2.size
    have hm := hm.below b2 (by omega)
    have hs := hs.below b2 (by omega)
    have B2 := B1.trans (b2.mono (by omega))
    clear b2 B1
    rw [HL.out] at A
    rw [HL.out, HB.out]
    go_wp2_with fail
    refine (s_AddFactor hm (by omega) hs.rii (by omega) HSG.out (by omega) (by omega) (by omega) (by omega) (by omega) (by omega)).mono ?_
    rintro e w3 ⟨Sa, Sc, rfl, S, b3⟩
    have z3 := b3.size
    have hm := hm.below b3 (by omega)
    have hs := hs.below b3 (by omega)
    have A := A.below b3 (by omega)
    have B3 := B2.trans (b3.mono (by omega))
    clear b3 B2
    rw [HL.out] at S
    rw [HL.out, HB.out]
    go_wp2_with fail
    refine (l_equalLists A.rii S.rii (by omega) (by omega) HGR.out HGR.out).mono ?_
    rintro e w4 ⟨rfl, d4⟩
    have b4 := Dr.below d4 w3.heap.size
    have z4 := Dr.le d4
    clear d4
    have hm := hm.below b4 (by omega)
    have hs := hs.below b4 (by omega)
    have A := A.below b4 (by omega)
    have S := S.below b4 (by omega)
    have B4 := B3.trans (b4.mono (by omega))
    clear b4 B3
    rw [heqL]
    go_wp2_with fail
    refine (l_equalLists A.rii S.rii (by omega) (by omega) HGR.out HGR.out).mono ?_
    rintro e w5 ⟨rfl, d5⟩
    have B5 := B4.trans (Dr.below d5 _)
    rw [heqL]
    go_wp2
    go_ret
    exact ⟨rfl, B5⟩
  go_wp2_with fail
  refine (i_AddFactor hm (by omega) hs.rii (by omega) HSG.out (by omega) (by omega) (by omega) (by omega) (by omega) (by omega)).mono ?_
  rintro e w2 ⟨Aa, Ac, rfl, A, b2⟩
  have z2 := b2.size
  have hm := hm.below b2 (by omega)
  have hs := hs.below b2 (by omega)
  have B2 := B1.trans (b2.mono (by omega))
  clear b2 B1
  rw [HL.out] at A
  rw [HL.out, HB.out]
  go_wp2_with fail
  refine (s_AddFactor hm (by omega) hs.rii (by omega) HSG.out (by omega) (by omega) (by omega) (by omega) (by omega) (by omega)).mono ?_
  rintro e w3 ⟨Sa, Sc, rfl, S, b3⟩
  have z3 := b3.size
  have hm := hm.below b3 (by omega)
  have hs := hs.below b3 (by omega)
  have A := A.below b3 (by omega)
  have B3 := B2.trans (b3.mono (by omega))
  clear b3 B2
  rw [HL.out] at S
  rw [HL.out, HB.out]
  go_wp2_with fail
  refine (l_equalLists A.rii S.rii (by omega) (by omega) HGR.out HGR.out).mono ?_
  rintro e w4 ⟨rfl, d4⟩
  have b4 := Dr.below d4 w3.heap.size
  have z4 := Dr.le d4
  clear d4
  have hm := hm.below b4 (by omega)
  have hs := hs.below b4 (by omega)
  have A := A.below b4 (by omega)
  have S := S.below b4 (by omega)
  have B4 := B3.trans (b4.mono (by omega))
  clear b4 B3
  rw [heqL]
  clear S
  have hF := af_facts HB.out
  rw [HL.out] at hF
  obtain ⟨hm0, hic, hdr, hsL, hdl, hdt⟩ := hF
  have HIC := Lib.hid hic; have HDR := Lib.hid hdr; have HDT := Lib.hid hdt
  obtain ⟨D, hD⟩ : ∃ D, drL (adM m l) L (m.length : Nat) = D := ⟨_, rfl⟩
  have HD := Lib.hid hD
  rw [hD] at hdl HDT
  have HDL := Lib.hid hdl
  have HDG := Lib.hid (@drL_gr (adM m l) L (m.length : Nat)).2
  rw [hD] at HDG
  obtain ⟨M, hM⟩ : ∃ M, adM m l = M := ⟨_, rfl⟩
  have hMl : M.length ≤ 11 := by rw [← hM]; simp [adM]; omega
  have HMM : Hid (m ++ [l] = M) := hM
  rw [hM] at HIC HDR HD
  have hm0' := Lib.hid hm0
  have HG9 : Hid (∀ r ∈ L, r.length ≤ 9223372036854775807) := fun r h => by have := HGR.out r h; omega
  have HSG4 : Hid (∀ r ∈ s, r.length ≤ 4611686018427387904) := fun r h => by have := HSR.out r h; omega
  clear hic hdr hdt hD hdl hM hm0
  have hbA := (Below.refl w4.heap.size w4).alloc (Nat.le_refl _) (.cells #[] 3)
  have hmA := hm.below hbA (by omega)
  have hstr := OwnL.made w4 w4.heap.size (Nat.le_refl _)
  have hzA : w4.heap.size ≤ (w4.alloc (.cells #[] 3)).heap.size := by simp
  go_wp2_with (first
    | (at_builtin; refine wpList_appN rfl (.tmp 61) (.tmp 62) (by rfl) w4.heap.size _ [] (by rfl) hstr m _ _ c1 a1 (by rfl) hmA hm0'.out (by simp) (by omega) hzA ?_; intro v5 w5 hown5 hb5; simp only [List.nil_append] at hown5; have hb05 := chain1 hb5; have hz5 := hb05.size)
    | (at_builtin; refine wpList_app1 rfl (.tmp 63) (.tmp 65) (by rfl) w4.heap.size _ m (by rfl) hown5 l (by rfl) (by omega) hz5 ?_; intro v6 w6 hown6 hb6; rw [HMM.out] at hown6; obtain ⟨qa, qc, rfl, hoi⟩ := hown6.slice; have hb06 := hb05.trans hb6; have hz6 := hb06.size)
    | (go_at_call 17; refine (i_DropFactor (c := qc) hoi.ri (by omega) (A.rii.below hb06 (by omega)) (by omega) HG9.out (by omega) (by omega) (by omega) (by omega)).mono ?_; rintro e w7 ⟨Da, Dc, rfl, hDD, hb7⟩; rw [HD.out] at hDD; rw [HD.out, HDR.out])
    | fail)
  have hz7 := hb7.size
  have hb07 := hb06.trans (hb7.mono hz6)
  have hM7 := hoi.ri.below hb7 (Nat.le_refl _)
  have A7 := A.below hb07 (by omega)
  have hs7 := hs.below hb07 (by omega)
  have BB := B4.trans (hb07.mono (by omega))
  have hge : decide ((s.length : Int) ≤ (L.length : Int)) = true := decide_eq_true (by omega)
  have hDs : s.length ≤ D.length := by have := HDL.out; omega
  have hDc := hDD.cap
  clear hown6 hown5 hb5 hb6 hb05 hbA hmA hstr hzA hoi hb7 hb07 hb06 B4 A hs hm
  go_wp2_with fail
  refine (i_IsCovering (c := qc) hM7 (by omega) A7.rii (by omega) HG9.out (by omega) (by omega) (by omega) (by omega)).mono ?_
  rintro e w8 ⟨rfl, b8⟩
  rw [HIC.out]
  have zz := b8.size
  have hs8 := hs7.below b8 (by omega)
  have hD8 := hDD.below b8 (by omega)
  have BB := BB.trans (b8.mono (by omega))
  clear b8 hM7 A7 hs7 hDD
  by_cases hD0 : D.length = 0
  · skip
    have hs0 : s.length = 0 := by omega
    obtain rfl : s = [] := List.eq_nil_of_length_eq_zero hs0
    obtain rfl : D = [] := List.eq_nil_of_length_eq_zero hD0
    have hsl2 := fun wx => sliceToNilA (a := Da) (c := Dc) wx
    have hes : eqII ([] : List (List Int)) [] = true := eqII_true.2 rfl
    go_wp2_with fail
    refine (l_equalLists (x := []) (y := []) (RII.nil _ 0 0 _) (RII.nil _ 0 0 _) (by simp) (by simp) (by simp) (by simp)).mono ?_
    rintro e v3 ⟨rfl, d3⟩
    rw [hes]
    go_wp2
    go_ret
    exact ⟨rfl, BB.trans (Dr.below d3 _)⟩
  · skip
    obtain ⟨b, o, _, _, _, ha, _⟩ := hD8.rii.at (k := 0) (by omega)
    subst ha
    have hst := hD8.rii.takeR s.length
    rw [HDT.out] at hst
    have hsl2 := fun wx => sliceToII (b := b) (o := o) (n := D.length) (c := Dc) (k := s.length) (z := (s.length : Int)) rfl (by omega) wx
    have hes : eqII s s = true := eqII_true.2 rfl
    go_wp2_with fail
    refine (l_equalLists hst hs8.rii (by omega) (by omega) HSG4.out HSG4.out).mono ?_
    rintro e v3 ⟨rfl, d3⟩
    rw [hes]
    go_wp2
    go_ret
    exact ⟨rfl, BB.trans (Dr.below d3 _)⟩

end Go.Proofs.Yteoiclkipfdgpaa
