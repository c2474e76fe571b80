/- Walks: SuiteText on both sides. -/
import Derived.Test.YtpioldgpfpmjiaaGreatDoorUv
import Derived.Test.YtpioldgpfpmjiaaGreatDoorUw
namespace Go.Proofs.YtpioldgpfpmjiaaGreatDoor
open Go Go.RowKit

def suS (m : List Int) (ps : List (List Int)) : ByteArray := if okM m && okS m ps then stT ps else ⟨#[]⟩
theorem su_yes {m : List Int} {ps : List (List Int)} (h : okM m = true) (h' : okS m ps = true) : suS m ps = stT ps := by unfold suS; rw [h, h']; rfl
theorem su_no {m : List Int} {ps : List (List Int)} (h : (okM m && okS m ps) = false) : suS m ps = ⟨#[]⟩ := by unfold suS; rw [h]; rfl
theorem su_rows {m : List Int} {ps : List (List Int)} (hm : okM m = true) (hs : okS m ps = true) {p : List Int} (hp : p ∈ ps) : okP m p = true ∧ p.length ≤ 5 ∧ ∀ (k : Nat) (x : Int), p[k]? = some x → -1 ≤ x ∧ x ≤ 2 := by
  have hT := okS_all hs hp
  have hl := okW_len hT
  have h5 := okM_len hm
  have hat : ∀ (k : Nat) (x : Int), p[k]? = some x → -1 ≤ x ∧ x ≤ 2 := fun k x hx => by
    obtain ⟨y, hy⟩ := at_of_lt (show k < m.length by have := lt_of_at hx; omega)
    have h6 := okW_at hT hx hy
    have h7 := okM_at hm hy
    omega
  refine ⟨?_, by omega, hat⟩
  have := (okT_iff.1 hT).1
  exact this

/-! ### slices of texts that a call appends to -/
theorem undSt : Tryz.prog.underlying 22 = some (.slice 9) := by kernel_rfl
theorem infoSt : (Tryz.prog.info? 9).map (fun i => (i.zero, i.size, i.bytes)) = some (some (.string ⟨#[]⟩), 1, 16) := by kernel_rfl
def OwnSt (w : World) (B : Nat) (v : Value) (ss : List ByteArray) : Prop := w.ownsRow B 9 1 v ss.length (ss.map Value.string)
theorem OwnSt.room (w : World) (B n t : Nat) (ht : t = 9) (hB : B ≤ w.heap.size) (hn : n ≤ maxLen) : OwnSt (w.alloc (.cells (madeCells #[.string ⟨#[]⟩] n) t)) B (.slice (some ⟨w.heap.size, 0, none⟩) 0 n) [] := by
  subst ht
  exact World.ownsRow_made w _ n hB hn (by simp [madeCells])
theorem OwnSt.below {w w' : World} {B : Nat} {v : Value} {ss : List ByteArray} (h : OwnSt w B v ss) (hb : Below w.heap.size w w') : OwnSt w' B v ss :=
  World.ownsRow.kept h (row := none) ⟨hb.os, hb.tape, hb.output, hb.size, fun k hk _ => hb.block k hk⟩ (by cases v.ownBlock <;> simp)
theorem wpList_appSt {wr : World} {ops : Array Oper} {rest : List Oper} {o : Oper} {a : Act} {Q : Exit → Act → World → Prop} (hgd : o.guard = none) (s t : Operand)
    (ho : o.op = .call { callee := .builtin .append, args := #[s, t], argTypes := #[22, 22] }) (B : Nat) (v : Value) (ss : List ByteArray) (hs : a.eval s = v) (hown : OwnSt wr B v ss) (x : ByteArray)
    (hx : a.eval t = .slice (some ⟨wr.heap.size, 0, none⟩) 1 1) (hl : ss.length ≤ 1099511627776) (hB : B ≤ wr.heap.size)
    (h : ∀ v' w', OwnSt w' B v' (ss ++ [x]) → Below B wr w' → Hid (v' ≠ .slice none 0 0) → wpList Tryz.prog ops Q rest (a.put o.dst v') w') : wpList Tryz.prog ops Q (o :: rest) a (wr.alloc (.cells #[.string x] 9)) := by
  obtain ⟨i0, hi, hz0, hz1, hz2⟩ := info_parts infoSt
  refine wpList_append_own _ hgd s t 22 ho B 9 i0 (.string ⟨#[]⟩) 1 16 undSt hi hz0 hz1 hz2 rfl (by decide) v ss.length (ss.map Value.string) hs (World.ownsRow.alloc hown _) ⟨wr.heap.size, 0, none⟩ 1 1 [.string x] hx rfl ?_ ?_ ?_ ?_ ?_ ?_
  · exact cell_one_new _ _ _
  · intro u hu; simp at hu; subst hu; rfl
  · unfold maxLen; omega
  · omega
  · simp; omega
  · intro v' w' h1 h2 h3
    have h1' : OwnSt w' B v' (ss ++ [x]) := by unfold OwnSt; rw [List.length_append, List.map_append]; exact h1
    refine h v' w' h1' ?_ ?_
    · refine (((Below.refl B wr).alloc hB _).grown h2 (by simp; omega) fun k hk => ?_)
      exact ((World.ownsRow.lt hown) k hk).1
    · intro e
      have h9 := h1'.2
      rcases h9 with ⟨_, h0⟩ | ⟨g, cap, cur, h2, _⟩
      · simp at h0
      · rw [e] at h2; cases h2

theorem OwnSt.text {w : World} {B : Nat} {v : Value} {ss : List ByteArray} (h : OwnSt w B v ss) (hv : v ≠ .slice none 0 0) : ∃ g c, v = .slice (some ⟨g, 0, none⟩) ss.length c ∧ g < w.heap.size ∧ ss.length ≤ c ∧ ∀ (j : Nat) (x : ByteArray), ss[j]? = some x → w.cell? ⟨g, 0 + j, none⟩ = some (.string x) := by
  have hlt := World.ownsRow.lt h
  rcases h.2 with ⟨h0, _⟩ | ⟨g, cap, cur, h2, hb, hg, hn, hm, hx, ht⟩
  · exact absurd h0 hv
  · refine ⟨g, cap, h2, (hlt g (by rw [h2]; rfl)).2, hn, fun j x hj => ?_⟩
    rw [Nat.zero_add, cell_of_row w g j cur _ (0, 0) hg]
    have e1 : (ss.map Value.string)[j]? = some (.string x) := by rw [List.getElem?_map, hj]; rfl
    rw [← ht, List.getElem?_take] at e1
    split at e1
    · simpa using e1
    · cases e1
theorem makeSt (K : Nat) (hK : K ≤ 20) (wx : World) : (Instr.makeSlice 22 (.int .i64 0) (.int .i64 (K : Int))).run Tryz.prog wx = .ok (.slice (some ⟨wx.heap.size, 0, none⟩) 0 K) (wx.alloc (.cells (madeCells #[.string ⟨#[]⟩] K) 9)) := by
  obtain ⟨inf, hinf, hz, hsz, hby⟩ := info_parts infoSt
  have h := run_makeSlice (P := Tryz.prog) (w := wx) 22 9 inf (.string ⟨#[]⟩) undSt hinf hz .i64 .i64 0 (K : Int) (by omega) (by omega) (by rw [hsz]; omega) (by rw [hby]; omega) (by omega)
  simpa [hsz, Value.cells] using h
theorem st_join {ps : List (List Int)} : (⟨(Lib.join ((ps.map txS).map (·.data.toList)) (⟨#[44]⟩ : ByteArray).data.toList).toArray⟩ : ByteArray) = stT ps := by
  unfold stT
  rw [List.map_map]
  have e : (fun p : List Int => p.map dg) = ((·.data.toList) ∘ txS) := by funext p; simp [txS]
  rw [e]

set_option maxRecDepth 100000 in
set_option maxHeartbeats 2000000 in
theorem i_SuiteText {m : List Int} {ps : List (List Int)} {a a' : Option Addr} {c c' lo hi lo' hi' : Nat} {w : World} (hm : RI w lo hi a m) (hlm : m.length ≤ 9223372036854775807) (hp : RII w lo' hi' a' ps) (hl : ps.length ≤ 9223372036854775807) (hg : ∀ r ∈ ps, r.length ≤ 9223372036854775807) (hB : hi ≤ w.heap.size) (hB' : hi' ≤ w.heap.size) :
    Calls Tryz.prog 71 #[.slice a m.length c, .slice a' ps.length c'] w (NewV' w (.string (suS m ps))) := by
  have HG := Lib.hid hg; clear hg
  cases hos : (okM m && okS m ps)
  · have HOS := Lib.hid hos; clear hos
    have HNO := Lib.hid (su_no HOS.out)
    go_enter Tryz.func71, Tryz.ntmps71
    go_wp2_with fail
    refine (i_ValidSuite hm hlm hp hl HG.out).mono ?_
    rintro e w1 ⟨rfl, d1⟩
    rw [HOS.out]
    go_wp2
    go_ret
    exact ⟨by rw [HNO.out]; rfl, Dr.below d1 _⟩
  have HOS := Lib.hid hos
  have hos2 := hos
  rw [Bool.and_eq_true] at hos2
  have hsl := okS_len hos2.2
  have HOK := Lib.hid hos2.1
  have HY := Lib.hid (su_yes hos2.1 hos2.2)
  have HROW : Hid (∀ p ∈ ps, ptS m p = txS p ∧ p.length ≤ 5) := fun p hq => by
    have h := su_rows hos2.1 hos2.2 hq
    exact ⟨pt_yes hos2.1 h.1, h.2.1⟩
  obtain ⟨K, hK⟩ : ∃ K, ps.length = K := ⟨_, rfl⟩
  have HK := Lib.hid hK
  have HVS := Lib.hid (i_ValidSuite (c := c) (c' := c') hm hlm hp hl HG.out)
  rw [hK] at HVS hsl ⊢
  have hmk := makeSt K hsl
  have hml : m.length ≤ 5 := (okM_len hos2.1).2
  clear hos hos2 hK hl
  go_enter Tryz.func71, Tryz.ntmps71
  go_wp2_with fail
  refine HVS.out.mono ?_
  rintro e w1 ⟨rfl, d1⟩
  rw [HOS.out]
  have d1 : Dr w w1 := d1
  have z1 := Dr.le d1
  have hb1 := Dr.below d1 w.heap.size
  have hst := OwnSt.room w1 w.heap.size K 9 rfl z1.2 (by unfold maxLen; omega)
  have hbst := hb1.alloc z1.2 (.cells (madeCells #[.string ⟨#[]⟩] K) 9)
  clear d1 HVS
  go_wp2
  clear hmk
  go_loopw [5, 17] (fun v i wr => ∃ k : Nat, k ≤ K ∧ i = .int .i64 k ∧ OwnSt wr w.heap.size v ((ps.take k).map txS) ∧ Hid (v ≠ .slice none 0 0) ∧ Below w.heap.size w wr) (fun _ i _ => K - (intOf i).toNat)
  case atStart => exact ⟨0, Nat.zero_le _, rfl, by simpa using hst, by simp [Hid], hbst⟩
  case round =>
    clear hst hbst hb1
    obtain ⟨k, hk, rfl, hown, hnn, hd⟩ := hrel
    have hz := hd.size
    by_cases hlt : k < K
    · obtain ⟨b, o, a1, c1, r, ha, _, hbh, hcell, hr, hx⟩ := (hp.below hd hB').at (show k < ps.length by have := HK.out; omega)
      have hidx := idxII ha hlt c'
      have hrw := HROW.out r (List.mem_of_getElem? hx.out)
      have HPT := Lib.hid hrw.1
      have hr5 := hrw.2
      have HST : Hid ((ps.take (k + 1)).map txS = (ps.take k).map txS ++ [txS r]) := by show _ = _; rw [take_snoc hx.out, List.map_append]; rfl
      have hkl : ((ps.take k).map txS).length ≤ 1099511627776 := by simp; omega
      obtain ⟨X, hX⟩ : ∃ X, (ps.take k).map txS = X := ⟨_, rfl⟩
      rw [hX] at hown HST hkl
      have hm1 := hm.below hd hB
      clear ha hx hrw hX
      go_wp2_with fail
      refine (i_PatternText hm1 (by omega) hr (by omega) (by omega)).mono ?_
      rintro e w3 ⟨rfl, b3⟩
      rw [HPT.out]
      obtain ⟨q, hq⟩ : ∃ q, txS r = q := ⟨_, rfl⟩
      rw [hq] at HST ⊢
      have hown3 := hown.below b3
      have hd3 := hd.trans (b3.mono hz)
      have z3 := hd3.size
      clear hq hown b3 hcell
      go_wp2_with (first
        | (at_builtin; refine wpList_appSt rfl _ _ rfl w.heap.size _ X rfl hown3 q rfl hkl z3 ?_; intro v6 w6 hown6 hb6 hnn6)
        | go_in)
      rw [← HST.out] at hown6
      have hd6 := hd3.trans hb6
      clear hown3 hb6 hd3 hd
      go_roundw
      case rel => exact ⟨k + 1, by omega, by go_num, hown6, hnn6, hd6⟩
      case measure => simp [intOf]; omega
    · have HKE : Hid (ps.take k = ps) := List.take_of_length_le (by have := HK.out; omega)
      rw [HKE.out] at hown
      obtain ⟨T, hT⟩ : ∃ T, ps.map txS = T := ⟨_, rfl⟩
      have HSJ : Hid ((⟨(Lib.join (T.map (·.data.toList)) (⟨#[44]⟩ : ByteArray).data.toList).toArray⟩ : ByteArray) = stT ps) := by show _ = _; rw [← hT]; exact st_join
      have hTl : T.length ≤ 20 := by rw [← hT, List.length_map]; have := HK.out; omega
      rw [hT] at hown
      clear hT
      obtain ⟨g, cg, rfl, hgs, hcap, hcells⟩ := hown.text hnn.out
      have hjl : (Lib.join (T.map (·.data.toList)) (⟨#[44]⟩ : ByteArray).data.toList).length ≤ 140737488355328 := by
        have h1 := stT_size (ps := ps) fun p hq => (HROW.out p hq).2
        have h2 := HK.out
        rw [← HSJ.out] at h1
        have h3 : (⟨(Lib.join (T.map (·.data.toList)) (⟨#[44]⟩ : ByteArray).data.toList).toArray⟩ : ByteArray).size = (Lib.join (T.map (·.data.toList)) (⟨#[44]⟩ : ByteArray).data.toList).length := by simp [ByteArray.size]
        omega
      have hJ := x_Join g 0 cg T ⟨#[44]⟩ wr hcells hgs (by omega) hcap hjl
      rw [HSJ.out] at hJ
      have HJ := Lib.hid hJ
      clear hJ hjl hcells hown hcap
      go_wp2_with fail
      refine HJ.out.mono ?_
      rintro e w9 ⟨rfl, b9⟩
      have hd9 := hd.trans (b9.mono hz)
      go_wp2
      go_ret
      exact ⟨by rw [HY.out]; rfl, hd9⟩

end Go.Proofs.YtpioldgpfpmjiaaGreatDoor
