/- Walks: DropEvent. -/
import Derived.Test.YtkboggohkhjciaaUj
import Derived.Test.YtkboggohkhjciaaUe
namespace Go.Proofs.Ytkboggohkhjciaa
open Go Go.RowKit

def NewLB (w : World) (mm : List (List Int)) (b : Bool) (e : Ending) (w' : World) : Prop :=
  ∃ a c, e = .returned (.tuple #[.slice a mm.length c, .bool b]) ∧ OIIc w' w.heap.size w'.heap.size a c mm ∧ Below w.heap.size w w'
theorem NewLB.none {w w' : World} {l : List (List Int)} {b : Bool} (h : l = [] ∧ b = false) (hb : Below w.heap.size w w') : NewLB w l b (.returned (.tuple #[.slice none 0 0, .bool false])) w' := by
  obtain ⟨rfl, rfl⟩ := h
  exact ⟨_, _, rfl, OIIc.nil _ _ _ _ _, hb⟩
theorem NewLB.some {w w' : World} {l l' : List (List Int)} {b : Bool} {a : Option Addr} {c n : Nat} (h : l = l' ∧ b = true) (hn : n = l'.length) (ho : OIIc w' w.heap.size w'.heap.size a c l') (hb : Below w.heap.size w w') :
    NewLB w l b (.returned (.tuple #[.slice a n c, .bool true])) w' := by
  obtain ⟨rfl, rfl⟩ := h
  subst hn
  exact ⟨_, _, rfl, ho, hb⟩

def dvF (e x : Int) : Int := if e < x then x - 1 else x
theorem dvR_map (e : Int) (r : List Int) : dvR e r = (r.filter fun x => x != e).map (dvF e) := rfl
def mpK (f : Int → Int) (l : List Int) (i : Nat) : List Int := (l.take i).map f ++ l.drop i
theorem mpK_zero (f : Int → Int) (l : List Int) : mpK f l 0 = l := by simp [mpK]
theorem mpK_all {f : Int → Int} {l : List Int} {i : Nat} (h : l.length ≤ i) : mpK f l i = l.map f := by
  unfold mpK; rw [List.take_of_length_le h, List.drop_of_length_le h, List.append_nil]
theorem mpK_len (f : Int → Int) (l : List Int) (i : Nat) : (mpK f l i).length = l.length := by
  unfold mpK; simp; omega
theorem mpK_at {f : Int → Int} {l : List Int} {i : Nat} {x : Int} (h : l[i]? = some x) : (mpK f l i)[i]? = some x := by
  have hi := lt_of_at h
  unfold mpK
  rw [List.getElem?_append_right (by simp; omega)]
  have : i - ((l.take i).map f).length = 0 := by simp; omega
  rw [this, List.getElem?_drop]; simpa using h
theorem mpK_succ {f : Int → Int} {l : List Int} {i : Nat} {x : Int} (h : l[i]? = some x) : mpK f l (i + 1) = (mpK f l i).set i (f x) := by
  have hi := lt_of_at h
  unfold mpK
  rw [take_snoc h, List.set_append_right _ _ (by simp; omega)]
  have : i - ((l.take i).map f).length = 0 := by simp; omega
  rw [this, drop_at' h]
  simp
theorem mpK_same {f : Int → Int} {l : List Int} {i : Nat} {x : Int} (h : l[i]? = some x) (hf : f x = x) : mpK f l (i + 1) = mpK f l i := by
  rw [mpK_succ h, hf]
  refine List.ext_getElem? fun j => ?_
  rw [List.getElem?_set]
  split
  · rename_i e; subst e
    rw [mpK_at h]; simp [mpK_len, lt_of_at h]
  · rfl
theorem erase_at : ∀ {r : List Int} {e : Int}, r.Nodup → r.eraseIdx (r.idxOf e) = r.filter fun x => x != e
  | [], _, _ => rfl
  | a :: r, e, hn => by
    rw [List.nodup_cons] at hn
    by_cases h : a = e
    · subst h
      rw [List.idxOf_cons_self]
      have : (r.filter fun x => x != a) = r := List.filter_eq_self.2 fun x hx => by simp; rintro rfl; exact hn.1 hx
      simp [this]
    · have h1 : (a == e) = false := beq_eq_false_iff_ne.2 h
      have h2 : (a != e) = true := by simp [h]
      rw [List.idxOf_cons, h1]
      simp only [cond_false, List.eraseIdx_cons_succ, List.filter_cons, h2, if_true]
      rw [erase_at hn.2]
theorem dvR_len (e : Int) (r : List Int) : (dvR e r).length ≤ r.length := by
  unfold dvR; rw [List.length_map]; exact List.length_filter_le _ _
theorem dvR_lo {e y : Int} {r : List Int} {k : Nat} (h : r[k]? = some y) (hy : y < e) : dvR e (r.take (k + 1)) = dvR e (r.take k) ++ [y] := by
  rw [take_snoc h]; unfold dvR
  have h1 : (y != e) = true := by simp; omega
  have h2 : ¬ e < y := by omega
  simp [List.filter_append, h1, h2]
theorem dvR_hi {e y : Int} {r : List Int} {k : Nat} (h : r[k]? = some y) (hy : e < y) : dvR e (r.take (k + 1)) = dvR e (r.take k) ++ [y - 1] := by
  rw [take_snoc h]; unfold dvR
  have h1 : (y != e) = true := by simp; omega
  simp [List.filter_append, h1, hy]
theorem dvR_eq {e : Int} {r : List Int} {k : Nat} (h : r[k]? = some e) : dvR e (r.take (k + 1)) = dvR e (r.take k) := by
  rw [take_snoc h]; unfold dvR
  simp [List.filter_append]
theorem dvB_s {n : Int} {runs : List (List Int)} {e : Int} (h : okRs n runs = false) : dvB n runs e = false := by unfold dvB; rw [h]; rfl
theorem dvB_n {n : Int} {runs : List (List Int)} {e : Int} (h : n < 2) : dvB n runs e = false := by unfold dvB; rw [show decide (2 ≤ n) = false from by simp; omega]; simp
theorem dvB_e {n : Int} {runs : List (List Int)} {e : Int} (h : inR e 0 (n - 1) = false) : dvB n runs e = false := by unfold dvB; rw [h]; simp
theorem dvB_mk {n : Int} {runs : List (List Int)} {e : Int} (h : okRs n runs = true) (h2 : 2 ≤ n) (he : inR e 0 (n - 1) = true) : dvB n runs e = true := by unfold dvB; rw [h, he, show decide (2 ≤ n) = true from by simp; omega]; rfl
theorem dv_no {n : Int} {runs : List (List Int)} {e : Int} (h : dvB n runs e = false) : dvL n runs e = [] ∧ dvB n runs e = false := ⟨by unfold dvL; rw [h]; rfl, h⟩
theorem dv_yes {n : Int} {runs : List (List Int)} {e : Int} (h : dvB n runs e = true) : dvL n runs e = runs.map (dvR e) ∧ dvB n runs e = true := ⟨by unfold dvL; rw [h]; rfl, h⟩
theorem dvL_row {n : Int} {runs : List (List Int)} {e : Int} : ∀ r ∈ dvL n runs e, r.length ≤ 5 := by
  intro r hr
  cases hb : dvB n runs e
  · rw [(dv_no hb).1] at hr; cases hr
  · rw [(dv_yes hb).1] at hr
    obtain ⟨q, hq, rfl⟩ := List.mem_map.1 hr
    have h0 : okRs n runs = true := by unfold dvB at hb; simp at hb; exact hb.1.1
    have h1 := okRs_row h0 hq
    have h2 := okRs_m h0
    have h3 := dvR_len e q
    omega
theorem dvL_len {n : Int} {runs : List (List Int)} {e : Int} : (dvL n runs e).length ≤ 20 := by
  cases hb : dvB n runs e
  · rw [(dv_no hb).1]; simp
  · rw [(dv_yes hb).1, List.length_map]
    have h0 : okRs n runs = true := by unfold dvB at hb; simp at hb; exact hb.1.1
    exact (okRs_m h0).2.2.1
theorem dvL_sum {n : Int} {runs : List (List Int)} {e : Int} : sumL (dvL n runs e) ≤ 100 := sum5 dvL_row dvL_len
theorem dvL_gr {n : Int} {runs : List (List Int)} {e : Int} : True ∧ ∀ r ∈ dvL n runs e, r.length ≤ 4611686018427387904 := ⟨trivial, fun r hr => by have := dvL_row r hr; omega⟩
theorem dv_take {runs : List (List Int)} {e : Int} {k : Nat} {r : List Int} (hr : runs[k]? = some r) : (runs.map (dvR e)).take (k + 1) = (runs.map (dvR e)).take k ++ [dvR e r] := by
  rw [take_snoc (x := dvR e r)]
  rw [List.getElem?_map, hr]; rfl

set_option maxRecDepth 100000 in
set_option maxHeartbeats 4000000 in
theorem i_withoutEvent {r : List Int} {e : Int} {a : Option Addr} {c lo hi : Nat} {w : World} (hr : RI w lo hi a r) (hB : hi ≤ w.heap.size) (hc : r.length ≤ c) (hl : r.length ≤ 5) (h2 : 2 ≤ r.length) (hn : r.Nodup) (he : e ∈ r) (h5 : ∀ x ∈ r, 0 ≤ x ∧ x < 5) :
    Calls Try.prog 63 #[.slice a r.length c, .int .i64 e] w (NewI w (dvR e r)) := by
  obtain ⟨k, hk⟩ : ∃ k, r.idxOf e = k := ⟨_, rfl⟩
  have hkl : k < r.length := by rw [← hk]; exact List.idxOf_lt_length_of_mem he
  have HIX : Hid (ixV r e = (k : Int)) := by show _ = _; unfold ixV; rw [if_pos he, hk]
  have HE := Lib.hid (erase_at (e := e) hn)
  obtain ⟨l, hll⟩ : ∃ l, r.eraseIdx k = l := ⟨_, rfl⟩
  have hlen : l.length + 1 = r.length := by rw [← hll, List.length_eraseIdx]; simp [hkl]; omega
  have HDV : Hid (dvR e r = l.map (dvF e)) := by show _ = _; rw [dvR_map, ← HE.out, hk, hll]
  have H5 : Hid (∀ x ∈ l, 0 ≤ x ∧ x < 5) := fun x hx => h5 x (by rw [← hll] at hx; exact List.mem_of_mem_eraseIdx hx)
  have HIXC := Lib.hid (x_IndexS (x := e) (c := c) hr (by omega))
  have HWO := Lib.hid (fun (wx : World) (hx : RI wx lo hi a r) (hbx : hi ≤ wx.heap.size) => i_withoutI (c := c) hx hbx (by omega) hc hkl)
  rw [hll] at HWO
  clear hk hll HE he hn h5
  go_enter Try.func63, Try.ntmps63
  go_wp2_with fail
  refine HIXC.out.mono ?_
  rintro e1 w1 ⟨rfl, d1⟩
  rw [HIX.out]
  have d1 : Dr w w1 := d1
  have z1 := Dr.le d1
  go_wp2_with fail
  refine (HWO.out w1 (hr.dr d1) (by omega)).mono ?_
  rintro e2 w2 ⟨a2, c2, rfl, ho, b2⟩
  have z2 := b2.size
  have hb02 := (Dr.below d1 w.heap.size).trans (b2.mono z1.2)
  obtain ⟨bb, ob, _, ha2, _, _, _⟩ := ho.oi.ri.at (show 0 < l.length by omega)
  subst ha2
  have hcap := ho.cap
  have hst : OI w2 w1.heap.size w2.heap.size (some ⟨bb, ob, none⟩) (mpK (dvF e) l 0) := by rw [mpK_zero]; exact ho.oi
  obtain ⟨M, hM⟩ : ∃ M, l.length = M := ⟨_, rfl⟩
  have HM := Lib.hid hM
  rw [hM] at hcap hlen ⊢
  clear hM ho b2 hr HIXC HWO d1
  go_wp2
  go_loopw [15] (fun i wr => ∃ k : Nat, k ≤ M ∧ i = .int .i64 k ∧ OI wr w1.heap.size w2.heap.size (some ⟨bb, ob, none⟩) (mpK (dvF e) l k) ∧ Upd w1.heap.size w2.heap.size w2 wr ∧ w2.heap.size = wr.heap.size) (fun i _ => M - (intOf i).toNat)
  case atStart => exact ⟨0, Nat.zero_le _, rfl, hst, Upd.refl _ _ _, rfl⟩
  case round =>
    clear hst
    obtain ⟨k, hk, rfl, ho, hu, hs⟩ := hrel
    by_cases hlt : k < M
    · obtain ⟨x, hx⟩ := at_of_lt (show k < l.length by have := HM.out; omega)
      have hx5 := H5.out x (List.mem_of_getElem? hx)
      obtain ⟨b3, o3, e3, hb3, hb4, ⟨x3, hx3, hc3⟩, hf3⟩ := ho k (by rw [mpK_len]; have := HM.out; omega)
      obtain ⟨rfl, rfl⟩ : bb = b3 ∧ ob = o3 := by simpa using e3
      have ex : x3 = x := by rw [mpK_at hx] at hx3; simpa using hx3.symm
      subst ex
      have hidx := idxI (a := some ⟨bb, ob, none⟩) rfl hlt c2
      by_cases hxe : e < x3
      · have hF : dvF e x3 = x3 - 1 := if_pos hxe
        have HS := Lib.hid (mpK_succ (f := dvF e) hx)
        have hs1 := ho.set (show k < (mpK (dvF e) l k).length by rw [mpK_len]; exact lt_of_at hx) (x3 - 1)
        rw [← hF, ← HS.out, hF] at hs1
        have HS1 := Lib.hid hs1
        have hwx : IntKind.i64.wrap (x3 - 1) = x3 - 1 := by rw [IntWalk.i64_in _ (by omega)]
        clear hx hx3 e3 ho hs1 HS hF
        go_wp2
        go_roundw
        case rel => exact ⟨k + 1, by omega, by go_num, HS1.out.same fun _ _ _ => rfl, (hu.setCell (p := ⟨bb, ob + k, none⟩) hb3 hb4 _).trans ⟨rfl, rfl, rfl, Nat.le_refl _, fun _ _ _ => rfl⟩, hs.trans (by show _ = (wr.setCell _ _).heap.size; simp [World.setCell])⟩
        case measure => simp [intOf]; omega
      · have HS := Lib.hid (mpK_same (f := dvF e) hx (if_neg hxe))
        rw [← HS.out] at ho
        clear hx hx3 e3 HS
        go_wp2
        go_roundw
        case rel => exact ⟨k + 1, by omega, by go_num, ho, hu, hs⟩
        case measure => simp [intOf]; omega
    · have HKE : Hid (mpK (dvF e) l k = dvR e r) := by show _ = _; rw [mpK_all (by have := HM.out; omega), HDV.out]
      have HLN : Hid (M = (dvR e r).length) := by show _ = _; rw [HDV.out, List.length_map, HM.out]
      rw [HKE.out] at ho
      go_wp2
      go_ret
      refine ⟨_, c2, by rw [HLN.out]; rfl, ⟨ho.wide (by omega) (by omega), by have := HLN.out; omega⟩, hb02.trans ((hu.below).mono (by omega))⟩

set_option maxRecDepth 100000 in
set_option maxHeartbeats 4000000 in
theorem i_DropEvent {n : Int} {m : List (List Int)} {e : Int} {a : Option Addr} {c lo hi' : Nat} {w : World} (h0 : -9223372036854775808 ≤ n) (h1 : n ≤ 9223372036854775807) (hm : RII w lo hi' a m) (hl : m.length ≤ 9223372036854775807) (hg : ∀ r ∈ m, r.length ≤ 9223372036854775807) (_he0 : -9223372036854775808 ≤ e) (_he1 : e ≤ 9223372036854775807) (hB : hi' ≤ w.heap.size) :
    Calls Try.prog 39 #[.int .i64 n, .slice a m.length c, .int .i64 e] w (NewLB w (dvL n m e) (dvB n m e)) := by
  have HG := Lib.hid hg; clear hg
  by_cases hn2 : n < 2
  · have hd2 : decide (n < 2) = true := decide_eq_true hn2
    have HNO := Lib.hid (dv_no (dvB_n (runs := m) (e := e) hn2))
    go_enter Try.func39, Try.ntmps39
    go_wp2
    go_ret2
    exact NewLB.none HNO.out (Below.refl _ _)
  have hd2 : decide (n < 2) = false := decide_eq_false hn2
  have HVR := Lib.hid (i_ValidRuns (c := c) h0 h1 hm hl HG.out hB)
  cases hv : okRs n m
  · have HV := Lib.hid hv; clear hv
    have HNO := Lib.hid (dv_no (dvB_s (e := e) HV.out))
    go_enter Try.func39, Try.ntmps39
    go_wp2_with fail
    refine HVR.out.mono ?_
    rintro e1 w1 ⟨rfl, b1⟩
    rw [HV.out]
    go_wp2
    go_ret2
    exact NewLB.none HNO.out b1
  have HV := Lib.hid hv
  have hrm := okRs_m hv
  clear hv
  cases hee : inR e 0 (n - 1)
  · have HEE := Lib.hid hee; clear hee
    have HNO := Lib.hid (dv_no (dvB_e (runs := m) HEE.out))
    go_enter Try.func39, Try.ntmps39
    go_wp2_with fail
    refine HVR.out.mono ?_
    rintro e1 w1 ⟨rfl, b1⟩
    rw [HV.out]
    go_wp2_with fail
    refine (i_has (n := n) (x := e)).mono ?_
    rintro e2 w2 ⟨rfl, d2⟩
    rw [HEE.out]
    have d2 : Dr w1 w2 := d2
    go_wp2
    go_ret2
    exact NewLB.none HNO.out (b1.trans ((Dr.below d2 _).mono b1.size))
  have HEE := Lib.hid hee
  have he := inR_true.1 hee
  clear hee
  have HYES := Lib.hid (dv_yes (dvB_mk HV.out (by omega) HEE.out))
  have hm20 := hrm.2.2.1
  have hn5 : n ≤ 5 := hrm.2.1
  clear hrm
  obtain ⟨N, rfl⟩ := Int.eq_ofNat_of_zero_le (show 0 ≤ n by omega)
  have HROW : Hid (∀ r ∈ m, r.length = N ∧ r.Nodup ∧ e ∈ r ∧ ∀ x ∈ r, 0 ≤ x ∧ x < 5) := fun r hr => by
    have h := okRs_row HV.out hr
    have hrl : r.length = N := by omega
    exact ⟨hrl, okE_nodup h.2, okE_all h.2 hrl (by omega) (by omega), fun x hx => by have := okE_mem h.2 hx; omega⟩
  have HTK : Hid (∀ (k : Nat) (r : List Int), m[k]? = some r → (m.map (dvR e)).take (k + 1) = (m.map (dvR e)).take k ++ [dvR e r]) := fun k r hr => dv_take hr
  obtain ⟨L, hL⟩ : ∃ L, m.map (dvR e) = L := ⟨_, rfl⟩
  have hLL : L.length = m.length := by rw [← hL, List.length_map]
  have HLL := Lib.hid hLL
  rw [hL] at HTK HYES
  clear hL hLL
  go_enter Try.func39, Try.ntmps39
  go_wp2_with fail
  refine HVR.out.mono ?_
  rintro e1 w1 ⟨rfl, b1⟩
  rw [HV.out]
  go_wp2_with fail
  refine (i_has (n := (N : Int)) (x := e)).mono ?_
  rintro e2 w2 ⟨rfl, d2⟩
  rw [HEE.out]
  have d2 : Dr w1 w2 := d2
  have z2 := Dr.le d2
  have hb02 := b1.trans ((Dr.below d2 w1.heap.size).mono b1.size)
  have z02 := hb02.size
  have hst := OwnLL.room w2 w.heap.size m.length 29 rfl z02 (by unfold maxLen; omega)
  have hmk := makeLL m.length hm20
  have hbst := hb02.alloc z02 (.cells (madeCells #[.slice none 0 0] m.length) 29)
  clear b1 d2 hb02 HVR h0 h1
  go_wp2
  clear hmk hd2
  go_loopw [8, 30] (fun v i wr => ∃ k : Nat, k ≤ m.length ∧ i = .int .i64 k ∧ OwnLL wr w.heap.size v (L.take k) ∧ Below w.heap.size w wr) (fun _ i _ => m.length - (intOf i).toNat)
  case atStart => exact ⟨0, Nat.zero_le _, rfl, by simpa using hst, hbst⟩
  case round =>
    clear hst hbst
    obtain ⟨k, hk, rfl, hown, hd⟩ := hrel
    have hz := hd.size
    by_cases hlt : k < m.length
    · obtain ⟨b, o, a1, c1, r, ha, _, hbh, hcell, hr, hx, hcap⟩ := (hm.below hd hB).atc hlt
      have hidx := idxII ha hlt c
      obtain ⟨hrl, hrn, hre, hr5⟩ := HROW.out r (List.mem_of_getElem? hx.out)
      have HST := Lib.hid (HTK.out k r hx.out)
      have hkl : (L.take k).length ≤ 1099511627776 := by simp; omega
      have HWE := Lib.hid (i_withoutEvent (c := c1) hr (by omega) hcap (by omega) (by omega) hrn hre hr5)
      obtain ⟨l, hle⟩ : ∃ l, dvR e r = l := ⟨_, rfl⟩
      rw [hle] at HST HWE
      clear ha hx hrl hrn hre hr5 hle hr hm
      go_wp2_with fail
      refine HWE.out.mono ?_
      rintro e3 w3 ⟨a3, c3, rfl, ho3, hb01⟩
      have hs01 := hb01.size
      have hO := OII.one5 (t := 29) (c := c3) rfl ho3 hs01 (Nat.le_refl _)
      have hb3 := hb01.alloc hs01 (.cells #[.slice a3 l.length c3] 29)
      obtain ⟨A3, C3, G3, hf3, hc3⟩ := Fam.of5 hO
      clear hO hcell hb01 ho3 HWE
      go_wp2_with (first
        | (at_builtin; refine wpList_appLL (W0 := wr) rfl _ _ rfl w.heap.size _ (L.take k) [l] rfl hown hb3 (by omega) ⟨w3.heap.size, 0, none⟩ 1 1 rfl rfl A3 C3 G3 hf3 hc3 hkl (by simp) ?_; intro v4 w4 hown4 hb4 hnn4)
        | go_in)
      rw [← HST.out] at hown4
      have hd4 := (hd.trans (hb3.mono (by omega))).trans hb4
      clear hb4 hb3 hd hown hf3 hc3 hnn4
      go_roundw
      case rel => exact ⟨k + 1, by omega, by go_num, hown4, hd4⟩
      case measure => simp [intOf]; omega
    · have HKE : Hid (L.take k = L) := List.take_of_length_le (by have := HLL.out; omega)
      rw [HKE.out] at hown
      obtain ⟨a5, c5, rfl, h5⟩ := hown.slice
      go_wp2
      go_ret2
      exact NewLB.some HYES.out rfl h5 hd

set_option maxRecDepth 100000 in
set_option maxHeartbeats 4000000 in
theorem s_DropEvent {n : Int} {m : List (List Int)} {e : Int} {a : Option Addr} {c lo hi' : Nat} {w : World} (h0 : -9223372036854775808 ≤ n) (h1 : n ≤ 9223372036854775807) (hm : RII w lo hi' a m) (hl : m.length ≤ 9223372036854775807) (hg : ∀ r ∈ m, r.length ≤ 9223372036854775807) (_he0 : -9223372036854775808 ≤ e) (_he1 : e ≤ 9223372036854775807) (hB : hi' ≤ w.heap.size) :
    Calls Try.prog 40 #[.int .i64 n, .slice a m.length c, .int .i64 e] w (NewLB w (dvL n m e) (dvB n m e)) := by
  have HG := Lib.hid hg; clear hg
  have HVR := Lib.hid (s_validRuns (c := c) h0 h1 hm hl HG.out)
  cases hv : okRs n m
  · have HV := Lib.hid hv; clear hv
    have HNO := Lib.hid (dv_no (dvB_s (e := e) HV.out))
    go_enter Try.func40, Try.ntmps40
    go_wp2_with fail
    refine HVR.out.mono ?_
    rintro e1 w1 ⟨rfl, d1⟩
    rw [HV.out]
    go_wp2
    go_ret2
    exact NewLB.none HNO.out (Dr.below d1 _)
  have HV := Lib.hid hv
  have hrm := okRs_m hv
  clear hv
  by_cases hn2 : n < 2
  · have hd2 : decide (n < 2) = true := decide_eq_true hn2
    have HNO := Lib.hid (dv_no (dvB_n (runs := m) (e := e) hn2))
    go_enter Try.func40, Try.ntmps40
    go_wp2_with fail
    refine HVR.out.mono ?_
    rintro e1 w1 ⟨rfl, d1⟩
    rw [HV.out]
    go_wp2
    go_ret2
    exact NewLB.none HNO.out (Dr.below d1 _)
  have hd2 : decide (n < 2) = false := decide_eq_false hn2
  have hn5 : n ≤ 5 := hrm.2.1
  have hwn : IntKind.i64.wrap (n - 1) = n - 1 := by rw [IntWalk.i64_in _ (by omega)]
  cases hee : inR e 0 (n - 1)
  · have HEE := Lib.hid hee; clear hee
    have HNO := Lib.hid (dv_no (dvB_e (runs := m) HEE.out))
    go_enter Try.func40, Try.ntmps40
    go_wp2_with fail
    refine HVR.out.mono ?_
    rintro e1 w1 ⟨rfl, d1⟩
    rw [HV.out]
    have d1 : Dr w w1 := d1
    go_wp2_with fail
    refine (s_inRange e 0 (n - 1) w1).mono ?_
    rintro e2 w2 ⟨rfl, d2⟩
    rw [HEE.out]
    have d2 : Dr w1 w2 := d2
    go_wp2
    go_ret2
    exact NewLB.none HNO.out (Dr.below (d1.trans d2) _)
  have HEE := Lib.hid hee
  have he := inR_true.1 hee
  clear hee
  have HYES := Lib.hid (dv_yes (dvB_mk HV.out (by omega) HEE.out))
  have hm20 := hrm.2.2.1
  clear hrm
  obtain ⟨N, rfl⟩ := Int.eq_ofNat_of_zero_le (show 0 ≤ n by omega)
  have HROW : Hid (∀ r ∈ m, r.length = N ∧ ∀ x ∈ r, 0 ≤ x ∧ x < 5) := fun r hr => by
    have h := okRs_row HV.out hr
    have hrl : r.length = N := by omega
    exact ⟨hrl, fun x hx => by have := okE_mem h.2 hx; omega⟩
  have HTK : Hid (∀ (k : Nat) (r : List Int), m[k]? = some r → (m.map (dvR e)).take (k + 1) = (m.map (dvR e)).take k ++ [dvR e r]) := fun k r hr => dv_take hr
  obtain ⟨L, hL⟩ : ∃ L, m.map (dvR e) = L := ⟨_, rfl⟩
  have hLL : L.length = m.length := by rw [← hL, List.length_map]
  have HLL := Lib.hid hLL
  rw [hL] at HTK HYES
  clear hL hLL
  go_enter Try.func40, Try.ntmps40
  go_wp2_with fail
  refine HVR.out.mono ?_
  rintro e1 w1 ⟨rfl, d1⟩
  rw [HV.out]
  have d1 : Dr w w1 := d1
  go_wp2_with fail
  refine (s_inRange e 0 ((N : Int) - 1) w1).mono ?_
  rintro e2 w2 ⟨rfl, d2⟩
  rw [HEE.out]
  have d2 : Dr w1 w2 := d2
  have D2 := Dr.trans d1 d2
  have z2 := Dr.le D2
  have hst := OwnLL.made w2 w.heap.size z2.2
  have hbst := (Dr.below D2 w.heap.size).alloc z2.2 (.cells #[] 29)
  clear d1 d2 D2 HVR h0 h1
  go_wp2
  clear hd2 hwn
  go_loopw [8, 9, 10, 11, 12] (fun v i _ _ _ wr => ∃ k : Nat, k ≤ m.length ∧ i = .int .i64 k ∧ OwnLL wr w.heap.size v (L.take k) ∧ Below w.heap.size w wr) (fun _ i _ _ _ _ => m.length - (intOf i).toNat)
  case atStart => exact ⟨0, Nat.zero_le _, rfl, by simpa using hst, hbst⟩
  case round =>
    clear hst hbst
    obtain ⟨k, hk, rfl, hown, hd⟩ := hrel
    have hz := hd.size
    by_cases hlt : k < m.length
    · obtain ⟨b, o, a1, c1, r, ha, _, hbh, hcell, hr, hx⟩ := (hm.below hd hB).at hlt
      have hidx := idxII ha hlt c
      obtain ⟨hrl, hr5⟩ := HROW.out r (List.mem_of_getElem? hx.out)
      have HRN := Lib.hid hrl
      have HR5 := Lib.hid hr5
      have HST := Lib.hid (HTK.out k r hx.out)
      have hkl : (L.take k).length ≤ 1099511627776 := by simp; omega
      obtain ⟨wo, rfl⟩ : ∃ x : World, x = wr := ⟨_, rfl⟩
      have hbs : b < wo.heap.size := by omega
      have hstb := OwnL.made wo wo.heap.size (Nat.le_refl _)
      have hbA := (Below.refl wo.heap.size wo).alloc (Nat.le_refl _) (.cells #[] 3)
      clear ha hx hrl hr5 hm
      go_wp2
      go_loopw [10, 11, 12] (fun v j _ wr => ∃ q : Nat, q ≤ N ∧ j = .int .i64 q ∧ OwnL wr wo.heap.size v (dvR e (r.take q)) ∧ Below wo.heap.size wo wr ∧ wo.heap.size + 1 ≤ wr.heap.size) (fun _ j _ _ => N - (intOf j).toNat)
      case atStart => exact ⟨0, Nat.zero_le _, rfl, by simpa [dvR] using hstb, hbA, by simp⟩
      case round =>
        clear hstb hbA
        obtain ⟨q, hq, rfl, hownb, hdb, hsz⟩ := hrel
        by_cases hql : q < N
        · have hrq := hr.below hdb (by omega)
          have hcellq := (hdb.cell (p := ⟨b, o + k, none⟩) hbs).trans hcell
          have hqr : q < r.length := by have := HRN.out; omega
          obtain ⟨b3, o3, y, ha3, _, _, hcx, hy⟩ := hrq.at hqr
          have hidx2 := idxI ha3 hqr c1
          have hy5 := HR5.out y (List.mem_of_getElem? hy.out)
          have HY := Lib.hid hy.out
          have hkl2 : (dvR e (r.take q)).length ≤ 1099511627776 := by have := dvR_len e (r.take q); simp at this; omega
          have hWs : wo.heap.size ≤ wr.heap.size := by omega
          clear ha3 hy hcell hrq
          have hcs : y < e ∨ y = e ∨ e < y := by omega
          rcases hcs with hlo | heq | hhi
          · have HDL := Lib.hid (dvR_lo HY.out hlo)
            have hg1 : decide (e < y) = false := decide_eq_false (by omega)
            have hne : (y != e) = true := by simp; omega
            clear hlo
            obtain ⟨l, hle⟩ : ∃ l, dvR e (r.take q) = l := ⟨_, rfl⟩
            rw [hle] at HDL hownb hkl2
            clear hle
            go_wp2_with (first
              | (at_builtin; refine wpList_app1 rfl (.tmp 62) (.tmp 64) rfl wo.heap.size _ l rfl hownb y rfl hkl2 hWs ?_; intro v9 w9 hown9 hb9)
              | go_in)
            rw [← HDL.out] at hown9
            have hdb9 := hdb.trans hb9
            have hz9 := hdb9.size
            have hz99 := hb9.size
            clear hownb hb9 hdb
            go_roundw
            case rel => exact ⟨q + 1, by omega, by go_num, hown9, hdb9, by omega⟩
            case measure => simp [intOf]; omega
          · subst heq
            have HDL := Lib.hid (dvR_eq HY.out)
            have hg1 : decide (y < y) = false := decide_eq_false (by omega)
            have hne : (y != y) = false := by simp
            rw [← HDL.out] at hownb
            go_wp2
            go_roundw
            case rel => exact ⟨q + 1, by omega, by go_num, hownb, hdb, by omega⟩
            case measure => simp [intOf]; omega
          · have HDL := Lib.hid (dvR_hi HY.out hhi)
            have hg1 : decide (e < y) = true := decide_eq_true hhi
            have hne : (y != e) = true := by simp; omega
            have hwx : IntKind.i64.wrap (y - 1) = y - 1 := by rw [IntWalk.i64_in _ (by omega)]
            clear hhi
            obtain ⟨l, hle⟩ : ∃ l, dvR e (r.take q) = l := ⟨_, rfl⟩
            rw [hle] at HDL hownb hkl2
            clear hle
            go_wp2_with (first
              | (at_builtin; refine wpList_app1 rfl (.tmp 62) (.tmp 64) rfl wo.heap.size _ l rfl hownb (y - 1) rfl hkl2 hWs ?_; intro v9 w9 hown9 hb9)
              | go_in)
            rw [← HDL.out] at hown9
            have hdb9 := hdb.trans hb9
            have hz9 := hdb9.size
            have hz99 := hb9.size
            clear hownb hb9 hdb
            go_roundw
            case rel => exact ⟨q + 1, by omega, by go_num, hown9, hdb9, by omega⟩
            case measure => simp [intOf]; omega
        · have HRE : Hid (r.take q = r) := List.take_of_length_le (by have := HRN.out; omega)
          rw [HRE.out] at hownb
          obtain ⟨l, hle⟩ : ∃ l, dvR e r = l := ⟨_, rfl⟩
          rw [hle] at HST hownb
          obtain ⟨a7, c7, rfl, ho7⟩ := hownb.slice
          have hO := OII.one5 (t := 29) (c := c7) rfl ho7 (by omega) (Nat.le_refl _)
          have hb3 := hdb.alloc (by omega) (.cells #[.slice a7 l.length c7] 29)
          obtain ⟨A3, C3, G3, hf3, hc3⟩ := Fam.of5 hO
          clear hO hle hcell ho7 hownb
          go_wp2_with (first
            | (at_builtin; refine wpList_appLL (W0 := wo) rfl _ _ rfl w.heap.size _ (L.take k) [l] rfl hown hb3 (by omega) ⟨wr.heap.size, 0, none⟩ 1 1 rfl rfl A3 C3 G3 hf3 hc3 hkl (by simp) ?_; intro v4 w4 hown4 hb4 hnn4)
            | go_in)
          rw [← HST.out] at hown4
          have hd4 := (hd.trans (hb3.mono (by omega))).trans hb4
          clear hb4 hb3 hd hdb hown hf3 hc3 hnn4
          go_roundw
          case rel => exact ⟨k + 1, by omega, by go_num, hown4, hd4⟩
          case measure => simp [intOf]; omega
    · have HKE : Hid (L.take k = L) := List.take_of_length_le (by have := HLL.out; omega)
      rw [HKE.out] at hown
      obtain ⟨a5, c5, rfl, h5⟩ := hown.slice
      go_wp2
      go_ret2
      exact NewLB.some HYES.out rfl h5 hd

end Go.Proofs.Ytkboggohkhjciaa
