/- Walks: FuseLevels, by the model. -/
import Derived.Test.YteoiclkipfdgpaaYe
import Derived.Test.YteoiclkipfdgpaaYl
import Derived.Test.YteoiclkipfdgpaaYj
namespace Go.Proofs.Yteoiclkipfdgpaa
open Go.RowKit

theorem OII.dr {w w' : World} {lo hi : Nat} {a : Option Addr} {mm : List (List Int)} (h : OII w lo hi a mm) (hd : Dr w w') : OII w' lo hi a mm := by
  obtain ⟨n, rfl⟩ := hd
  exact h.same fun _ _ _ => rfl

/- Walks: DropFactor of the program. -/
open Go.RowKit

theorem drB_s {m : List Int} {s : List (List Int)} {f : Int} (h : (okM m && okS m s) = false) : drB m s f = false := by unfold drB; rw [h]; rfl
theorem drB_2 {m : List Int} {s : List (List Int)} {f : Int} (h : m.length < 2) : drB m s f = false := by unfold drB; rw [show decide (2 ≤ m.length) = false from by simp; omega]; simp
theorem drB_f {m : List Int} {s : List (List Int)} {f : Int} (h : inR f 0 ((m.length : Int) - 1) = false) : drB m s f = false := by unfold drB; rw [h]; simp
theorem drB_mk {m : List Int} {s : List (List Int)} {f : Int} (h : (okM m && okS m s) = true) (h2 : 2 ≤ m.length) (hf : inR f 0 ((m.length : Int) - 1) = true) : drB m s f = true := by unfold drB; rw [h, hf, show decide (2 ≤ m.length) = true from by simp; omega]; rfl
theorem dr_take {s : List (List Int)} {fn k : Nat} {r : List Int} (hr : s[k]? = some r) : ((s.map fun r => r.eraseIdx fn).take (k + 1)) = (s.map fun r => r.eraseIdx fn).take k ++ [r.eraseIdx fn] := by
  rw [take_snoc (x := r.eraseIdx fn)]
  rw [List.getElem?_map, hr]; rfl

set_option maxRecDepth 100000 in
set_option maxHeartbeats 4000000 in
theorem i_DropFactor {m : List Int} {s : List (List Int)} {a a' : Option Addr} {c c' lo hi lo' hi' : Nat} {w : World} {f : Int} (hm : RI w lo hi a m) (hlm : m.length ≤ 9223372036854775807) (hs : RII w lo' hi' a' s) (hls : s.length ≤ 9223372036854775807) (hg : ∀ r ∈ s, r.length ≤ 9223372036854775807)
    (_hf0 : -9223372036854775808 ≤ f) (_hf1 : f ≤ 9223372036854775807) (_hB : hi ≤ w.heap.size) (hB' : hi' ≤ w.heap.size) :
    Calls Try.prog 17 #[.slice a m.length c, .slice a' s.length c', .int .i64 f] w (NewIIB w (drL m s f) (drB m s f)) := by
  have HG := Lib.hid hg; clear hg
  cases hos : (okM m && okS m s)
  · have HOS := Lib.hid hos; clear hos
    go_enter Try.func17, Try.ntmps17
    go_wp2_with fail
    refine (i_ValidSuite hm hlm hs hls HG.out).mono ?_
    rintro e w1 ⟨rfl, hd⟩
    rw [HOS.out]
    go_wp2
    go_ret2
    exact NewIIB.none (dr_no (drB_s HOS.out)) (Dr.below hd _)
  have hok2 := hos
  rw [Bool.and_eq_true] at hok2
  have HOK := Lib.hid hok2.1
  have HOKS := Lib.hid hok2.2
  have HOS := Lib.hid hos; clear hos hok2
  have hm5 := okM_len HOK.out
  by_cases h2 : m.length < 2
  · have hc2 : (m.length : Int) < 2 := by omega
    have HD := Lib.hid (drB_2 (s := s) (f := f) h2)
    go_enter Try.func17, Try.ntmps17
    go_wp2_with fail
    refine (i_ValidSuite hm hlm hs hls HG.out).mono ?_
    rintro e w1 ⟨rfl, hd⟩
    rw [HOS.out]
    go_wp2
    go_ret2
    exact NewIIB.none (dr_no HD.out) (Dr.below hd _)
  have hc2 : ¬ (m.length : Int) < 2 := by omega
  cases hof : inR f 0 ((m.length : Int) - 1)
  · have HOF := Lib.hid hof; clear hof
    go_enter Try.func17, Try.ntmps17
    go_wp2_with fail
    refine (i_ValidSuite hm hlm hs hls HG.out).mono ?_
    rintro e w1 ⟨rfl, hd⟩
    rw [HOS.out]
    go_wp2_with fail
    refine (i_isFactor hlm).mono ?_
    rintro e w2 ⟨rfl, hd2⟩
    rw [HOF.out]
    go_wp2
    go_ret2
    exact NewIIB.none (dr_no (drB_f HOF.out)) (Dr.below (Dr.trans hd hd2) _)
  have hf2 := inR_true.1 hof
  obtain ⟨fn, rfl⟩ := Int.eq_ofNat_of_zero_le hf2.1
  have hfm : fn < m.length := by omega
  have HYES := Lib.hid (dr_yes (drB_mk HOS.out (by omega) hof))
  have HOF := Lib.hid hof; clear hof
  have hsl := okS_len HOKS.out
  have HRL : Hid (∀ r ∈ s, r.length = m.length) := fun r hr => okW_len (okS_all HOKS.out hr)
  obtain ⟨L, hL⟩ : ∃ L, (s.map fun r => r.eraseIdx fn) = L := ⟨_, rfl⟩
  have HLL : Hid (L.length = s.length) := by show _ = _; rw [← hL, List.length_map]
  have HTK : Hid (∀ (k : Nat) (r : List Int), s[k]? = some r → L.take (k + 1) = L.take k ++ [r.eraseIdx fn]) := fun k r hr => by rw [← hL]; exact dr_take hr
  have HY2 : Hid (drL m s (fn : Int) = L ∧ drB m s (fn : Int) = true) := ⟨by rw [HYES.out.1, ← hL]; simp, HYES.out.2⟩
  clear hL HYES
  go_enter Try.func17, Try.ntmps17
  go_wp2_with fail
  refine (i_ValidSuite hm hlm hs hls HG.out).mono ?_
  rintro e w1 ⟨rfl, hd⟩
  rw [HOS.out]
  go_wp2_with fail
  refine (i_isFactor hlm).mono ?_
  rintro e w2 ⟨rfl, hd2⟩
  rw [HOF.out]
  have hdd := Dr.trans hd hd2
  have hz2 := Dr.le hdd
  have hbb := Dr.below hdd w.heap.size
  have hst := OwnLL.room w2 w.heap.size s.length 22 rfl hz2.2 (by unfold maxLen; omega)
  have hmk := make0 (N := s.length) (by omega)
  clear hd hd2 hdd hm
  go_wp2
  go_loopw [8, 31] (fun v i wr => ∃ k : Nat, k ≤ s.length ∧ i = .int .i64 k ∧ OwnLL wr w.heap.size v (L.take k) ∧ Below w.heap.size w wr) (fun _ i _ => s.length - (intOf i).toNat)
  case atStart => exact ⟨0, Nat.zero_le _, rfl, by simpa using hst, hbb.alloc hz2.2 _⟩
  case round =>
    clear hst hmk
    obtain ⟨k, hk, rfl, hown, hBl⟩ := hrel
    have hsz := hBl.size
    by_cases hlt : k < s.length
    · obtain ⟨b, o, a1, c1, r, ha, _, hbh, hcell, hr1, hx, hcap⟩ := (hs.below hBl hB').atc hlt
      have hidx := idxII ha hlt c'
      have hrl := HRL.out r (List.mem_of_getElem? hx.out)
      have HT := Lib.hid (HTK.out k r hx.out)
      have hkl : (L.take k).length ≤ 1099511627776 := by have := HLL.out; simp; omega
      have hfr : fn < r.length := by omega
      have hr5 : r.length ≤ 100000 := by omega
      clear ha hs hrl
      obtain ⟨l, hl⟩ : ∃ l, r.eraseIdx fn = l := ⟨_, rfl⟩
      have HWO := Lib.hid (i_withoutI (c := c1) hr1 (by omega) hr5 hcap hfr)
      rw [hl] at HWO HT
      clear hl
      go_wp2_with fail
      refine HWO.out.mono ?_
      rintro e w3 ⟨a2, c2, rfl, ho2, hb01⟩
      have hs01 := hb01.size
      have hO := OII.oneN (t := 22) (c := c2) rfl ho2 hs01 (Nat.le_refl _)
      have hb3 := hb01.alloc hs01 (.cells #[.slice a2 l.length c2] 22)
      obtain ⟨A3, C3, G3, hf3, hc3⟩ := Fam.ofOII hO
      clear hO hcell hr1 hb01 ho2 HWO
      go_wp2_with (first
        | (at_builtin; refine wpList_appLL (W0 := wr) rfl (.tmp 35) (.tmp 39) rfl w.heap.size _ (L.take k) [l] rfl hown hb3 (by omega) ⟨w3.heap.size, 0, none⟩ 1 1 rfl rfl A3 C3 G3 hf3 hc3 hkl (by simp) ?_; intro v4 w4 hown4 hb4 hnn4)
        | go_in)
      have HO : Hid (OwnLL w4 w.heap.size v4 (L.take (k + 1))) := by show OwnLL _ _ _ _; rw [HT.out]; exact hown4
      have hs3 := hb3.size
      have hBl5 := (hBl.trans (hb3.mono (by omega))).trans hb4
      clear hown4 hb4 hb3 hBl hown hf3 hc3 hnn4
      go_roundw
      case rel => exact ⟨k + 1, by omega, by go_num, HO.out, hBl5⟩
      case measure => simp [intOf]; omega
    · have HKE : Hid (L.take k = L) := List.take_of_length_le (by have := HLL.out; omega)
      rw [HKE.out] at hown
      obtain ⟨a5, c5, rfl, h5⟩ := hown.slice
      go_wp2
      go_ret2
      exact NewIIB.some HY2.out rfl h5 hBl

/- Walks: DropFactor of the document's side; rows appended at a step of a region that draws its order. -/
open Go.RowKit

theorem run_appS {wr : World} (ty : TypeId) (B : Nat) (v : Value) (l : List Int) (hown : OwnL wr B v l) (k : List Int) (lo hi c : Nat) (ad : Addr) (hk : RI wr lo hi (some ad) k) (hl : l.length ≤ 1099511627776) (hkl : k.length ≤ 1099511627776) (hB : B ≤ wr.heap.size) :
    ∃ v' w', (Builtin.append_ #[22, 22] ty #[v, .slice (some ad) k.length c]).run Try.prog wr = .ok v' w' ∧ OwnL w' B v' (l ++ k) ∧ Below B wr w' := by
  obtain ⟨i0, hi0, hz0, hz1, hz2⟩ := info_parts infoInt
  obtain ⟨v', w', hr, g1, g2, _⟩ := run_append_own_at (P := Try.prog) wr B 22 ty 3 i0 (.int .i64 0) 1 8 undI hi0 hz0 hz1 hz2 rfl (by decide) v l.length (ints l) hown ad k.length c (ints k) (by rw [ints_len, Nat.mul_one])
    (fun j u hu => by
      simp only [ints, List.getElem?_map, Option.map_eq_some_iff] at hu
      obtain ⟨x, hx, rfl⟩ := hu
      obtain ⟨b', o', e1, _, _, x', e4, e5⟩ := hk j (lt_of_at hx)
      cases e1
      rw [hx] at e4
      cases e4
      rw [addrAdd]; exact e5)
    (ints_one k) (by unfold maxLen; omega) (by omega) hB
  exact ⟨v', w', hr, by unfold OwnL; rw [ints_app, List.length_append]; exact g1, (Below.refl B wr).grown g2 hB fun k hk => ((World.ownsRow.lt hown) k hk).1⟩
theorem step_appS {wr : World} {ops : Array Oper} {o : Oper} {a : Act} {K : Act → World → Prop} {Q : Exit → Act → World → Prop} {E : Prop} (hgd : o.guard = none) (s t : Operand)
    (ho : o.op = .call { callee := .builtin .append, args := #[s, t], argTypes := #[22, 22] }) (B : Nat) (v : Value) (l : List Int) (hs : a.eval s = v) (hown : OwnL wr B v l) (k : List Int) (lo hi c n : Nat) (ad : Addr) (hn : n = k.length)
    (hx : a.eval t = .slice (some ad) n c) (hk : RI wr lo hi (some ad) k) (hl : l.length ≤ 1099511627776) (hkl : k.length ≤ 1099511627776) (hB : B ≤ wr.heap.size)
    (h : ∀ v' w', OwnL w' B v' (l ++ k) → Below B wr w' → K (a.put o.dst v') w') : if Region.wanted o (yielded ops a.tmps) = true then Oper.wp Try.prog o a wr K Q else E := by
  subst hn
  have hw : Region.wanted o (yielded ops a.tmps) = true := by simp [Region.wanted, hgd]
  rw [if_pos hw]
  obtain ⟨v', w', hr, h1, h2⟩ := run_appS o.type B v l hown k lo hi c ad hk hl hkl hB
  unfold Oper.wp execOp
  simp only [ho, resolve, invoke, builtin, Sem.run_bind, Sem.run_pure, Result.andThen_ok, List.map_toArray, List.map_cons, List.map_nil, hs, hx, hr]
  exact h v' w' h1 h2
theorem run_appLL {W0 W : World} (ty : TypeId) (B : Nat) (v : Value) (mm mm2 : List (List Int)) (hown : OwnLL W0 B v mm) (hb : Below W0.heap.size W0 W) (hB : B ≤ W0.heap.size)
    (ad : Addr) (n c : Nat) (hn : n = mm2.length) (A2 : Nat → Option Addr) (C2 G2 : Nat → Nat) (hfam : Fam W W0.heap.size W.heap.size A2 G2 mm2)
    (hcell : ∀ k r, mm2[k]? = some r → W.cell? (ad.add k) = some (.slice (A2 k) r.length (C2 k)) ∧ r.length ≤ C2 k) (hl : mm.length ≤ 1099511627776) (hl2 : mm2.length ≤ 1099511627776) :
    ∃ v' w', (Builtin.append_ #[23, 23] ty #[v, .slice (some ad) n c]).run Try.prog W = .ok v' w' ∧ OwnLL w' B v' (mm ++ mm2) ∧ Below B W w' := by
  subst hn
  have hBW := hb.size
  have hlt0 := hown.lt
  obtain ⟨xs, A, C, G, h1, h2, h3, h4⟩ := hown
  have h1' : W.ownsRow B 22 1 v mm.length xs := World.ownsRow.kept h1 (row := none) ⟨hb.os, hb.tape, hb.output, hb.size, fun k hk _ => hb.block k hk⟩ (by cases v.ownBlock <;> simp)
  have h3' : Fam W B W0.heap.size A G mm := h3.same fun k r e he => hb.block _ (h3.rlo k r e he).2
  have hf := h3'.app hfam hB hBW
  have hxl : xs.length = mm.length := by have := h1.1; omega
  obtain ⟨i0, hi, hz0, hz1, hz2⟩ := info_parts infoI
  let news : List Value := (List.range mm2.length).map fun k => Value.slice (A2 k) (mm2.getD k []).length (C2 k)
  have hnl : news.length = mm2.length := by simp [news]
  have hnews : ∀ k r, mm2[k]? = some r → news[k]? = some (Value.slice (A2 k) r.length (C2 k)) := by
    intro k r e
    have hk := lt_of_at e
    simp [news, hk, List.getD]
    rw [(List.getElem?_eq_some_iff.1 e).2]
  obtain ⟨v', w', hr, g1, g2, g3, g4⟩ := run_append_own_at (P := Try.prog) W B 23 ty 22 i0 (.slice none 0 0) 1 24 undII hi hz0 hz1 hz2 rfl (by decide) v mm.length xs h1' ad mm2.length c news (by rw [hnl, Nat.mul_one])
    (fun j u hu => by
      obtain ⟨r, hr⟩ := at_of_lt (show j < mm2.length by rw [← hnl]; exact lt_of_at hu)
      rw [hnews j r hr] at hu
      cases hu
      exact (hcell j r hr).1)
    (fun u hu => by
      simp only [news, List.mem_map] at hu
      obtain ⟨k, _, rfl⟩ := hu
      rfl)
    (by unfold maxLen; omega) (by omega) (by omega)
  have hoff : ∀ g, v.ownBlock = some g → ∀ k r, (mm ++ mm2)[k]? = some r → r ≠ [] → cat2 mm.length G G2 k ≠ g := by
    intro g hg k r e he
    rcases app_at e with ⟨hk, e⟩ | ⟨hk, e⟩
    · rw [cat2_lt hk]; exact h4 g hg k r e he
    · rw [cat2_ge hk]
      have := (hlt0 g hg).2
      have := hfam.rlo _ r e he
      omega
  have hf' : Fam w' B W.heap.size (cat2 mm.length A A2) (cat2 mm.length G G2) (mm ++ mm2) := hf.same fun k r e he =>
    g2.block _ (hf.rlo k r e he).2 fun hg => hoff _ hg.symm k r e he rfl
  refine ⟨v', w', hr, ⟨xs ++ news, cat2 mm.length A A2, cat2 mm.length C C2, cat2 mm.length G G2, by rw [List.length_append]; exact g1, fun k r e => ?_, hf'.wide (Nat.le_refl _) g2.size, fun g hg k r e he => ?_⟩, ?_⟩
  · rcases app_at e with ⟨hk, e⟩ | ⟨hk, e⟩
    · rw [cat2_lt hk, cat2_lt hk, List.getElem?_append_left (by omega)]; exact h2 k r e
    · rw [cat2_ge hk, cat2_ge hk, List.getElem?_append_right (by omega), hxl]; exact ⟨hnews _ r e, (hcell _ r e).2⟩
  · rcases g4 with g4 | g4
    · exact hoff g (by rw [← g4]; exact hg) k r e he
    · rw [g4] at hg
      have := hf.rlo k r e he
      cases hg
      omega
  · exact (Below.refl B W).grown g2 (by omega) fun k hk => (hlt0 k hk).1
/-- .. of one row of a call's own, out of a box -/
theorem step_appL1 {W0 W : World} {ops : Array Oper} {o : Oper} {a : Act} {K : Act → World → Prop} {Q : Exit → Act → World → Prop} {E : Prop} (hgd : o.guard = none) (s t : Operand)
    (ho : o.op = .call { callee := .builtin .append, args := #[s, t], argTypes := #[23, 23] }) (B : Nat) (v : Value) (mm : List (List Int)) (hs : a.eval s = v) (hown : OwnLL W0 B v mm) (hb : Below W0.heap.size W0 W) (hB : B ≤ W0.heap.size)
    (r : List Int) (a' : Option Addr) (n c' : Nat) (hn : r.length = n) (hr : OIc W W0.heap.size W.heap.size a' c' r) (nw : Nat) (hx : a.eval t = .slice (some ⟨nw, 0, none⟩) 1 1) (hnw : nw = W.heap.size) (hl : mm.length ≤ 1099511627776)
    (h : ∀ v' w', OwnLL w' B v' (mm ++ [r]) → Below B W w' → K (a.put o.dst v') w') : if Region.wanted o (yielded ops a.tmps) = true then Oper.wp Try.prog o a (W.alloc (.cells #[.slice a' n c'] 22)) K Q else E := by
  subst hnw
  have hO := OII.oneN (t := 22) (c := c') hn hr hb.size (Nat.le_refl _)
  have hb3 := hb.alloc hb.size (.cells #[.slice a' n c'] 22)
  obtain ⟨A3, C3, G3, hf3, hc3⟩ := Fam.ofOII hO
  have hw : Region.wanted o (yielded ops a.tmps) = true := by simp [Region.wanted, hgd]
  rw [if_pos hw]
  obtain ⟨v', w', hrn, h1, h2⟩ := run_appLL (W0 := W0) (W := W.alloc (.cells #[.slice a' n c'] 22)) o.type B v mm [r] hown hb3 hB ⟨W.heap.size, 0, none⟩ 1 1 rfl A3 C3 G3 hf3 hc3 hl (by simp)
  unfold Oper.wp execOp
  simp only [ho, resolve, invoke, builtin, Sem.run_bind, Sem.run_pure, Result.andThen_ok, List.map_toArray, List.map_cons, List.map_nil, hs, hx, hrn]
  refine h v' w' h1 ?_
  exact ((Below.refl B W).alloc (Nat.le_trans hB hb.size) _).trans h2

end Go.Proofs.Yteoiclkipfdgpaa
