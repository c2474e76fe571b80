/- Walks: IsLocating, by both sides; a map of numbers that were seen. -/
import Derived.Test.YtbdbfbobcdepgaaJj
import Derived.Test.YtbdbfbobcdepgaaMap
namespace Go.Proofs.Ytbdbfbobcdepgaa
open Go.RowKit

theorem undUint0 : Try.prog.underlying 78 = some (.int .u64) := by kernel_rfl
theorem keyedU : Maps.Keyed Try.prog 78 := Maps.int_keyed undUint0
theorem undMapU : Try.prog.underlying 106 = some (.map 78 4) := by kernel_rfl
theorem keyU_eq {x : Nat} (h : x < 2 ^ 64) : keyOf Try.prog 78 (.int .u64 (x : Int)) = some (.int .u64 (x : Int)) :=
  Maps.keyOf_int_mk undUint0 (by simp [Lit.wf, IntKind.min, IntKind.max, IntKind.bits, IntKind.signed]; omega)
theorem run_makeMapU (wx : World) : (Instr.makeMap 106 none).run Try.prog wx = .ok (.map (some wx.heap.size)) (wx.alloc (.map #[] 0)) := by
  simp [Instr.makeMap, Result.andThen]
/-- block b is a map of at most n entries: those numbers are in it of which S holds -/
def Mu (w : World) (b n : Nat) (S : Nat → Bool) : Prop :=
  ∃ D : DataW Unit, w.ownsMap Try.prog 78 (plainElem Try.prog 4) b n D ∧ ∀ x : Nat, x < 2 ^ 64 → D.atKey (.int .u64 (x : Int)) (.lit (.bool false)) = .lit (.bool (S x))
theorem Mu.made (w : World) : Mu (w.alloc (.map #[] 0)) w.heap.size 0 (fun _ => false) := ⟨_, World.ownsMap_made w _ _ _, fun _ _ => rfl⟩
theorem Mu.same {w w' : World} {b n : Nat} {S : Nat → Bool} (h : Mu w b n S) (hb : w'.heap[b]? = w.heap[b]?) : Mu w' b n S := by
  obtain ⟨D, ⟨es, clock, h1, r⟩, h2⟩ := h
  exact ⟨D, ⟨es, clock, hb.trans h1, r⟩, h2⟩
theorem Mu.congr {w : World} {b n : Nat} {S S' : Nat → Bool} (h : Mu w b n S) (e : ∀ x, S x = S' x) : Mu w b n S' := by
  obtain ⟨D, h1, h2⟩ := h
  exact ⟨D, h1, fun p hp => by rw [h2 p hp, e p]⟩

set_option maxRecDepth 100000 in
/-- a number is put in -/
theorem wpList_putU {w : World} {ops : Array Oper} {rest : List Oper} {o : Oper} {a : Act} {Q : Exit → Act → World → Prop} (hg : o.guard = none) (m x v : Operand) (hop : o.op = Op.mapUpdate 106 m x v)
    (b n : Nat) {S : Nat → Bool} (hm : a.eval m = .map (some b)) (hown : Mu w b n S) (hn : n ≤ 1048576) (p : Nat) (hp : p < 2 ^ 64) (hx : a.eval x = .int .u64 (p : Int)) (hv : a.eval v = .bool true)
    (hK : ∀ w', Mu w' b (n + 1) (fun q => q == p || S q) → Upd b (b + 1) w w' → wpList Try.prog ops Q rest (a.put o.dst undef) w') : wpList Try.prog ops Q (o :: rest) a w := by
  obtain ⟨D, h1, h2⟩ := hown
  refine wpList_mapUpdate_own _ hg m x v 106 hop 78 4 keyedU undMapU _ b n D hm h1 (by unfold maxLen; omega) _ _ (.int .u64 (p : Int)) hx hv (keyU_eq hp) _ [] (plainElem_bool undBool0 true) ?_
  intro w' hw hgr
  refine hK w' ⟨_, hw, fun q hq => ?_⟩ (.ofGrown hgr)
  by_cases e : q = p
  · subst e
    rw [Maps.atKey_put_same h1.isMap (keyedU.key (keyU_eq hq))]
    simp
  · rw [Maps.atKey_put_other (by intro h; apply e; injection h with _ h; exact_mod_cast h), h2 q hq]
    have e2 : (q == p) = false := by rw [beq_eq_false_iff_ne]; exact e
    simp [e2]

set_option maxRecDepth 100000 in
/-- .. is looked up -/
theorem wpList_lookU {w : World} {ops : Array Oper} {rest : List Oper} {o : Oper} {a : Act} {Q : Exit → Act → World → Prop} (hg : o.guard = none) (m x : Operand) (hop : o.op = Op.lookup 106 m x false)
    (b n : Nat) {S : Nat → Bool} (hm : a.eval m = .map (some b)) (hown : Mu w b n S) (p : Nat) (hp : p < 2 ^ 64) (hx : a.eval x = .int .u64 (p : Int)) (y : Bool) (hy : S p = y)
    (hK : wpList Try.prog ops Q rest (a.put o.dst (.bool y)) w) : wpList Try.prog ops Q (o :: rest) a w := by
  obtain ⟨D, h1, h2⟩ := hown
  obtain ⟨v, pl, hrun, hv⟩ := h1.lookup keyedU undMapU (zeroBool w) (plainElem_bool undBool0 false) (keyU_eq hp)
  rw [h2 p hp, hy] at hv
  have hv' := plainElem_bool_inv hv
  subst hv'
  refine wpList_plain hg fun K' hK' => ?_
  unfold Oper.wp
  simp [execOp, hop, hm, hx, hrun, Result.andThen]
  exact hK' _ _ hK

theorem il_no {m : List Int} {s : List (List Int)} {t : Int} (h : okC m s t = false) : ilB m s t = false := by unfold ilB; rw [h]; rfl
theorem il_yes {m : List Int} {s : List (List Int)} {t : Int} (h : okC m s t = true) : ilB m s t = ilP m s t := by unfold ilB; rw [h]; rfl
/-- the numbers of the first k patterns -/
def snU (s ps : List (List Int)) (k x : Nat) : Bool := (ps.take k).any fun p => bitN (rowB s p) == x
theorem snU_zero (s ps : List (List Int)) (x : Nat) : snU s ps 0 x = false := by simp [snU]
theorem snU_step {s ps : List (List Int)} {k : Nat} {p : List Int} (h : ps[k]? = some p) (x : Nat) : (x == bitN (rowB s p) || snU s ps k x) = snU s ps (k + 1) x := by
  unfold snU
  rw [take_snoc h, List.any_append, Bool.or_comm]
  congr 1
  simp only [List.any_cons, List.any_nil, Bool.or_false]
  rw [Bool.eq_iff_iff, beq_iff_eq, beq_iff_eq]; exact eq_comm
theorem row_inj {s : List (List Int)} {p q : List Int} (h : bitN (rowB s p) = bitN (rowB s q)) : rowB s p = rowB s q := bitN_inj (by simp [rowB]) h
theorem sn_bad {m : List Int} {s ps : List (List Int)} {t : Int} {k : Nat} {p : List Int} (hps : patS m [] t = ps) (h : ps[k]? = some p) (hs : snU s ps k (bitN (rowB s p)) = true) : ilP m s t = false := by
  cases hb : ilP m s t
  · rfl
  · obtain ⟨q, hq, he⟩ := List.any_eq_true.1 hs
    obtain ⟨j, hj⟩ := List.mem_iff_getElem?.1 hq
    have hjk : j < k := by
      have := lt_of_at hj
      simp at this; omega
    rw [List.getElem?_take_of_lt hjk] at hj
    have := ilP_iff.1 hb k j p q (by rw [hps]; exact h) (by rw [hps]; exact hj) hjk
    exact absurd (row_inj (by simpa using he)).symm this
theorem sn_good {s ps : List (List Int)} {k : Nat} {p : List Int} (_h : ps[k]? = some p) (hs : snU s ps k (bitN (rowB s p)) = false) : ∀ (j : Nat) (q : List Int), j < k → ps[j]? = some q → rowB s p ≠ rowB s q := by
  intro j q hj hq he
  have : snU s ps k (bitN (rowB s p)) = true := by
    refine List.any_eq_true.2 ⟨q, List.mem_iff_getElem?.2 ⟨j, by rw [List.getElem?_take_of_lt hj]; exact hq⟩, ?_⟩
    rw [he]; simp
  rw [hs] at this; cases this

set_option maxRecDepth 100000 in
set_option maxHeartbeats 4000000 in
theorem i_IsLocating {m : List Int} {s : List (List Int)} {a a' : Option Addr} {c c' lo hi lo' hi' : Nat} {w : World} {t : Int} (hm : RI w lo hi a m) (hlm : m.length ≤ 9223372036854775807) (hs : RII w lo' hi' a' s) (hls : s.length ≤ 9223372036854775807) (hg : ∀ r ∈ s, r.length ≤ 9223372036854775807) (_ht0 : -9223372036854775808 ≤ t) (_ht1 : t ≤ 9223372036854775807) (hB : hi ≤ w.heap.size) (hB' : hi' ≤ w.heap.size) :
    Calls Try.prog 48 #[.slice a m.length c, .slice a' s.length c', .int .i64 t] w (NewV w (.bool (ilB m s t))) := by
  have HG := Lib.hid hg; clear hg
  cases hc : okC m s t
  · have HE : Hid (ilB m s t = false) := il_no hc
    have HC := Lib.hid hc; clear hc
    go_enter Try.func48, Try.ntmps48
    go_wp2_with fail
    refine (i_canCover hm hlm hs hls HG.out).mono ?_
    rintro e w1 ⟨rfl, hd⟩
    rw [HC.out]
    go_wp2
    go_ret
    exact ⟨by rw [HE.out]; rfl, Dr.below hd _⟩
  have HE : Hid (ilB m s t = ilP m s t) := il_yes hc
  have hp := okC_parts hc
  have HR := Lib.hid hp.2.2.2
  have hsl := hp.2.2.1
  have ht := hp.2.1
  have HOK := Lib.hid hp.1
  have HC := Lib.hid hc; clear hc hp
  have HPL := Lib.hid (patS_len (head := []) HOK.out t)
  have HRL : Hid (∀ p, bitN (rowB s p) < 2 ^ 64) := row_lt (by omega)
  have hmm := fun (wx : World) => run_makeMapU wx
  go_enter Try.func48, Try.ntmps48
  go_wp2_with fail
  refine (i_canCover hm hlm hs hls HG.out).mono ?_
  rintro e w1 ⟨rfl, hd⟩
  rw [HC.out]
  have hd : Dr w w1 := hd
  have hz1 := Dr.le hd
  have hmu := Mu.made w1
  have hbA := (Below.refl w1.heap.size w1).alloc (Nat.le_refl _) (.map #[] 0)
  have hm1 := (hm.dr hd).below hbA (by omega)
  have hs1 := (hs.dr hd).below hbA (by omega)
  clear hm hs
  go_wp2_with fail
  refine (i_indicesOf HOK.out hm1 (by simp; omega) hs1 (by simp; omega) (by omega) HR.out ht.1 ht.2).mono ?_
  rintro e w2 ⟨v2, rfl, ho2, hb2⟩
  obtain ⟨av, cv, hv2, hat⟩ := ho2.at
  subst hv2
  have HAT := Lib.hid hat
  have hz2 := hb2.size
  simp only [World.size_alloc] at hz2
  have hbf : Below w.heap.size w w2 := (Dr.below hd _).trans ((hbA.trans (hb2.mono (by simp))).mono (by omega))
  have hmu2 : Mu w2 w1.heap.size 0 (fun _ => false) := hmu.same (hb2.block w1.heap.size (by simp))
  obtain ⟨ps, hps⟩ : ∃ ps, patS m [] t = ps := ⟨_, rfl⟩
  have HPS := Lib.hid hps
  rw [hps] at HAT HPL ⊢
  obtain ⟨N, hN⟩ : ∃ N, ps.length = N := ⟨_, rfl⟩
  have HN := Lib.hid hN
  have hNl : N ≤ 1024 := by have := HPL.out; omega
  rw [hN] at HAT ⊢
  simp only [World.size_alloc] at HAT
  clear hN hps hat ho2 hm1 hs1 hd hb2 hmu hbA
  go_wp2
  go_loopw [21] (fun i wr => ∃ k : Nat, k ≤ N ∧ i = .int .i64 k ∧ Mu wr w1.heap.size k (snU s ps k) ∧ Hid (∀ (i j : Nat) (p q : List Int), i < k → j < i → ps[i]? = some p → ps[j]? = some q → rowB s p ≠ rowB s q) ∧ Upd w1.heap.size (w1.heap.size + 1) w2 wr) (fun i _ => N - (intOf i).toNat)
  case atStart => exact ⟨0, Nat.zero_le _, rfl, hmu2.congr fun x => (snU_zero s ps x).symm, fun i j p q h => absurd h (by omega), Upd.refl _ _ _⟩
  case round =>
    clear hmu2
    obtain ⟨k, hk, rfl, hmu, HI, hU⟩ := hrel
    by_cases hlt : k < N
    · obtain ⟨p, hx⟩ := at_of_lt (show k < ps.length by have := HN.out; omega)
      obtain ⟨g, hg1, hg2, hidx, hc⟩ := HAT.out k _ (ixV_at hx)
      have hc1 : wr.cell? ⟨g, k, none⟩ = some (.int .u64 (bitN (rowB s p) : Nat)) := (World.cell?_of_block (w := w2) (hU.block g hg2 (by omega))).trans hc
      have HX := Lib.hid hx
      have hxl := HRL.out p
      have HBAD : Hid (snU s ps k (bitN (rowB s p)) = true → ilP m s t = false) := fun h => sn_bad HPS.out hx h
      have HGOOD : Hid (snU s ps k (bitN (rowB s p)) = false → ∀ (j : Nat) (q : List Int), j < k → ps[j]? = some q → rowB s p ≠ rowB s q) := fun h => sn_good hx h
      have HST := Lib.hid (snU_step (s := s) hx)
      obtain ⟨X, hX⟩ : ∃ X : Nat, bitN (rowB s p) = X := ⟨_, rfl⟩
      rw [hX] at hc1 hxl HBAD HGOOD HST
      clear hx hc hX
      cases hsn : snU s ps k X
      · have HI2 : Hid (∀ (i j : Nat) (p q : List Int), i < k + 1 → j < i → ps[i]? = some p → ps[j]? = some q → rowB s p ≠ rowB s q) := by
          show ∀ (i j : Nat), _
          intro i j p' q' hi hj e1 e2
          by_cases hik : i = k
          · subst hik
            rw [HX.out] at e1; cases e1
            exact HGOOD.out hsn j q' hj e2
          · exact HI.out i j p' q' (by omega) hj e1 e2
        clear HI HGOOD HBAD
        go_wp2_with (first
          | (at_lookup; refine wpList_lookU rfl _ _ rfl w1.heap.size k rfl hmu X hxl rfl false hsn ?_)
          | (at_mapUpdate; refine wpList_putU rfl _ _ _ rfl w1.heap.size k rfl hmu (by omega) X hxl rfl rfl ?_; intro w5 hmu5 hu5)
          | go_in)
        have HMU : Hid (Mu w5 w1.heap.size (k + 1) (snU s ps (k + 1))) := hmu5.congr fun x => HST.out x
        have hU5 := hU.trans hu5
        go_roundw
        case rel => exact ⟨k + 1, by omega, by go_num, HMU.out, HI2, hU5⟩
        case measure => simp [intOf]; omega
      · have HB := Lib.hid (HBAD.out hsn)
        clear HI HGOOD HBAD
        go_wp2_with (first
          | (at_lookup; refine wpList_lookU rfl _ _ rfl w1.heap.size k rfl hmu X hxl rfl true hsn ?_)
          | go_in)
        go_ret
        refine ⟨by rw [HE.out, HB.out]; rfl, ?_⟩
        have hz0 := hbf.size
        exact ⟨hU.os.trans hbf.os, hU.tape.trans hbf.tape, hU.output.trans hbf.output, Nat.le_trans hbf.size hU.size, fun j hj => (hU.block j (by omega) (by omega)).trans (hbf.block j hj)⟩
    · have HT : Hid (ilB m s t = true) := by
        show _ = _
        rw [HE.out]
        exact ilP_iff.2 fun i j p q h1 h2 h3 => HI.out i j p q (by rw [HPS.out] at h1; have := lt_of_at h1; have := HN.out; omega) h3 (by rw [← HPS.out]; exact h1) (by rw [← HPS.out]; exact h2)
      go_wp2
      go_ret
      refine ⟨by rw [HT.out]; rfl, ?_⟩
      have hz0 := hbf.size
      exact ⟨hU.os.trans hbf.os, hU.tape.trans hbf.tape, hU.output.trans hbf.output, Nat.le_trans hbf.size hU.size, fun j hj => (hU.block j (by omega) (by omega)).trans (hbf.block j hj)⟩

set_option maxRecDepth 100000 in
set_option maxHeartbeats 8000000 in
theorem s_IsLocating {m : List Int} {s : List (List Int)} {a a' : Option Addr} {c c' lo hi lo' hi' : Nat} {w : World} {t : Int} (hm : RI w lo hi a m) (hlm : m.length ≤ 9223372036854775807) (hs : RII w lo' hi' a' s) (hls : s.length ≤ 9223372036854775807) (hg : ∀ r ∈ s, r.length ≤ 9223372036854775807) (_ht0 : -9223372036854775808 ≤ t) (_ht1 : t ≤ 9223372036854775807) (hB : hi ≤ w.heap.size) (hB' : hi' ≤ w.heap.size) :
    Calls Try.prog 47 #[.slice a m.length c, .slice a' s.length c', .int .i64 t] w (NewV w (.bool (ilB m s t))) := by
  have HG := Lib.hid hg; clear hg
  cases hc : okC m s t
  · have HE : Hid (ilB m s t = false) := il_no hc
    have HC := Lib.hid hc; clear hc
    go_enter Try.func47, Try.ntmps47
    go_wp2_with fail
    refine (s_good hm hlm hs hls HG.out).mono ?_
    rintro e w1 ⟨rfl, hd⟩
    rw [HC.out]
    go_wp2
    go_ret
    exact ⟨by rw [HE.out]; rfl, Dr.below hd _⟩
  have HE : Hid (ilB m s t = ilP m s t) := il_yes hc
  have hp := okC_parts hc
  have HLN := Lib.hid (patS_len (head := []) hp.1 t)
  have HR := Lib.hid hp.2.2.2
  have hsl := hp.2.2.1
  have ht := hp.2.1
  have HOK := Lib.hid hp.1
  have hm5 := okM_len hp.1
  have HC := Lib.hid hc; clear hc hp
  go_enter Try.func47, Try.ntmps47
  go_wp2_with fail
  refine (s_good hm hlm hs hls HG.out).mono ?_
  rintro e w1 ⟨rfl, hd⟩
  rw [HC.out]
  have hz1 := Dr.le hd
  have hm1 := hm.dr hd
  have hs1 := hs.dr hd
  have hbA := (Below.refl w1.heap.size w1).alloc (Nat.le_refl _) (.cells #[] 3)
  go_wp2_with fail
  refine (s_patterns HOK.out m.length [] a ⟨w1.heap.size, 0, none⟩ c 0 lo hi 0 0 _ t (by simp) (hm1.below hbA (by omega)) (by simp; omega) (RI.nil _ _ _ _) (by simp) (by omega) (by omega)).mono ?_
  rintro e w2 ⟨ad, cc, rfl, h2, hb2⟩
  obtain ⟨ps, hps⟩ : ∃ ps, patS m [] t = ps := ⟨_, rfl⟩
  have HPS := Lib.hid hps
  have HPL : Hid (∀ p ∈ ps, p.length = m.length) := by show ∀ p ∈ ps, _; rw [← hps]; exact fun p hp => patS_row p hp
  rw [hps] at h2 HLN
  rw [hps]
  clear hps
  have hsz2 := hb2.size
  simp only [World.size_alloc] at hsz2
  have hb12 := hbA.trans (hb2.mono (by simp))
  have hBf := (Dr.below hd w.heap.size).trans (hb12.mono hz1.2)
  have hs2 : RII w2 0 w2.heap.size a' s := (hs1.below hb12 (by omega)).wide (Nat.zero_le _) (by omega)
  have hr2 : RII w2 0 w2.heap.size (some ad) ps := h2.rii.wide (Nat.zero_le _) (Nat.le_refl _)
  obtain ⟨M, hM⟩ : ∃ M, ps.length = M := ⟨_, rfl⟩
  have HNN := Lib.hid hM
  have hMl : M ≤ 1024 := by have := HLN.out; omega
  obtain ⟨L, hL⟩ : ∃ L, s.length = L := ⟨_, rfl⟩
  have HLL := Lib.hid hL
  rw [hM, hL]
  have hLl : L ≤ 20 := by omega
  clear hM h2 hb2 hbA hb12 hm hs hm1 hs1 hd hL hsl hls
  go_wp2
  go_loopw [8, 9] (fun i _ wr => ∃ k : Nat, k ≤ M ∧ i = .int .i64 k ∧ Hid (∀ (i j : Nat) (p q : List Int), i < k → j < i → ps[i]? = some p → ps[j]? = some q → rowB s p ≠ rowB s q) ∧ Below w2.heap.size w2 wr) (fun i _ _ => M - (intOf i).toNat)
  case atStart => exact ⟨0, Nat.zero_le _, rfl, fun x _ _ _ hx => absurd hx (by omega), Below.refl _ _⟩
  case round =>
    obtain ⟨k, hk, rfl, hI, hd⟩ := hrel
    have hz2 := hd.size
    by_cases hlt : k < M
    · obtain ⟨wo, hwo⟩ : ∃ wo, wo = wr := ⟨_, rfl⟩
      subst hwo
      go_wp2
      go_loopw [9] (fun j wr => ∃ y : Nat, y ≤ k ∧ j = .int .i64 y ∧ Hid (∀ (j : Nat) (p q : List Int), j < y → ps[k]? = some p → ps[j]? = some q → rowB s p ≠ rowB s q) ∧ Below wo.heap.size wo wr) (fun j _ => k - (intOf j).toNat)
      case atStart => exact ⟨0, Nat.zero_le _, rfl, fun y' _ _ hy => absurd hy (by omega), Below.refl _ _⟩
      case round =>
        obtain ⟨y, hy, rfl, hJ, hd2⟩ := hrel
        have D2 := hd.trans (hd2.mono hz2)
        have hz3 := hd2.size
        by_cases hyk : y < k
        · obtain ⟨b1, o1, a1, c1, p, ha1, _, hb1h, hc1, hp1, hx1, hcp1⟩ := (hr2.below D2 (Nat.le_refl _)).atc (show k < ps.length by have := HNN.out; omega)
          obtain ⟨b2, o2, a2, c2, q, ha2, _, hb2h, hc2, hp2, hx2, hcp2⟩ := (hr2.below D2 (Nat.le_refl _)).atc (show y < ps.length by have := HNN.out; omega)
          have hi1 := idxII ha1 hlt cc
          have hi2 := idxII ha2 (show y < M by omega) cc
          have hpl := HPL.out p (List.mem_of_getElem? hx1.out)
          have hql := HPL.out q (List.mem_of_getElem? hx2.out)
          have hss := hs2.below D2 (Nat.le_refl _)
          have HJ2 : Hid (rowB s p ≠ rowB s q → ∀ (j : Nat) (p q : List Int), j < y + 1 → ps[k]? = some p → ps[j]? = some q → rowB s p ≠ rowB s q) := by
            show _ → ∀ (j : Nat), _
            intro h y' p' q' hy' e1 e2
            by_cases hyy : y' = y
            · subst hyy
              rw [hx1.out] at e1; rw [hx2.out] at e2
              cases e1; cases e2
              exact h
            · exact hJ.out y' p' q' (by omega) e1 e2
          have HBAD : Hid (rowB s p = rowB s q → ilB m s t = false) := by
            show _ → _
            intro h1
            rw [HE.out]
            cases hb : ilP m s t
            · rfl
            · exact absurd h1 (ilP_iff.1 hb k y p q (by rw [HPS.out]; exact hx1.out) (by rw [HPS.out]; exact hx2.out) hyk)
          have HRP : Hid (∀ w', Below wr.heap.size wr w' → Calls Try.prog 122 #[.slice a' L c', .slice a1 p.length c1] w' (NewBo w' (rowB s p))) := fun w' hb => by
            have := s_rowOf (c := c1) (c' := c') (w := w') (n := m.length) (hss.below hb (by omega)) (by have := hb.size; omega) (hp1.below hb (by omega)) (by have := hb.size; omega) (by have := HLL.out; omega) HR.out hpl (by omega) hcp1
            rwa [HLL.out] at this
          have HRQ : Hid (∀ w', Below wr.heap.size wr w' → Calls Try.prog 122 #[.slice a' L c', .slice a2 q.length c2] w' (NewBo w' (rowB s q))) := fun w' hb => by
            have := s_rowOf (c := c2) (c' := c') (w := w') (n := m.length) (hss.below hb (by omega)) (by have := hb.size; omega) (hp2.below hb (by omega)) (by have := hb.size; omega) (by have := HLL.out; omega) HR.out hql (by omega) hcp2
            rwa [HLL.out] at this
          have HRL : Hid (∀ p, (rowB s p).length = L) := fun p => by unfold rowB; rw [List.length_map]; exact HLL.out
          have HS : Hid (∀ w', Below wr.heap.size wr w' → w'.cell? ⟨b1, o1 + k, none⟩ = some (.slice a1 p.length c1) ∧ w'.cell? ⟨b2, o2 + y, none⟩ = some (.slice a2 q.length c2)) := fun w' hb =>
            ⟨(hb.cell (p := ⟨b1, o1 + k, none⟩) (by show b1 < _; omega)).trans hc1, (hb.cell (p := ⟨b2, o2 + y, none⟩) (by show b2 < _; omega)).trans hc2⟩
          have hq1 : Below wr.heap.size wr wr := Below.refl _ _
          obtain ⟨X, hX⟩ : ∃ X, eqBo (rowB s p) (rowB s q) = X := ⟨_, rfl⟩
          have HX := Lib.hid hX
          clear hss hp1 hp2 ha1 ha2 hpl hql hx1 hx2 hJ hX
          go_wp2_with fail
          go_region_held3 (fun w' => w'.cell? ⟨b1, o1 + k, none⟩ = some (.slice a1 p.length c1) ∧ w'.cell? ⟨b2, o2 + y, none⟩ = some (.slice a2 q.length c2))
            (first | exact HS.out _ (by first | exact hqe | exact hqpq | exact hqqp | exact hqp | exact hqq | exact hq1.drew | exact hq1) | go_keep) ((first
            | (go_at_call 122; refine (HRP.out _ (by exact hqq)).mono ?_; rintro e wp ⟨ap, cp, rfl, hop, hbp⟩; have hqqp : Below wr.heap.size wr wp := hqq.trans (hbp.mono hqq.size); have hrq := hoq.below hbp (Nat.le_refl _); have hrp := hop)
            | (go_at_call 122; refine (HRQ.out _ (by exact hqp)).mono ?_; rintro e wq ⟨aq, cq, rfl, hoq, hbq⟩; have hqpq : Below wr.heap.size wr wq := hqp.trans (hbq.mono hqp.size); have hrp := hop.below hbq (Nat.le_refl _); have hrq := hoq)
            | (go_at_call 122; refine (HRP.out _ (by first | exact hq1.drew | exact hq1)).mono ?_; rintro e wp ⟨ap, cp, rfl, hop, hbp⟩; have hqp : Below wr.heap.size wr wp := (by first | exact hq1.drew.trans hbp | exact hq1.trans hbp))
            | (go_at_call 122; refine (HRQ.out _ (by first | exact hq1.drew | exact hq1)).mono ?_; rintro e wq ⟨aq, cq, rfl, hoq, hbq⟩; have hqq : Below wr.heap.size wr wq := (by first | exact hq1.drew.trans hbq | exact hq1.trans hbq))
            | (go_at_call 121; rw [HRL.out, HRL.out]; refine (s_equal hrp.ri hrq.ri (HRL.out _) (HRL.out _) (by omega)).mono ?_; rintro e we ⟨rfl, hde⟩; rw [HX.out]; have hqe : Below wr.heap.size wr we := (by first | exact hqpq.trans (Dr.below hde _) | exact hqqp.trans (Dr.below hde _)))
            | fail))
          all_goals
            have hd5 : Below wo.heap.size wo we := hd2.trans (hqe.mono hz3)
            have D5 : Below w2.heap.size w2 we := hd.trans (hd5.mono hz2)
            cases X
            · have HJ3 := Lib.hid (HJ2.out fun h => by have := HX.out; rw [eqBo_true.2 h] at this; cases this)
              clear HJ2 HBAD
              go_wp2
              go_roundw
              case rel => exact ⟨y + 1, by omega, by go_num, HJ3, hd5⟩
              case measure => simp [intOf]; omega
            · have HB2 := Lib.hid (HBAD.out (eqBo_true.1 HX.out))
              go_wp2
              go_ret
              exact ⟨by rw [HB2.out]; rfl, hBf.trans (D5.mono hBf.size)⟩
        · have HI2 : Hid (∀ (i j : Nat) (p q : List Int), i < k + 1 → j < i → ps[i]? = some p → ps[j]? = some q → rowB s p ≠ rowB s q) := by
            show ∀ (i j : Nat) p q, _
            intro x y' p q hx hyx e1 e2
            by_cases hxk : x = k
            · subst hxk; exact hJ.out y' p q (by omega) e1 e2
            · exact hI.out x y' p q (by omega) hyx e1 e2
          clear hI hJ
          go_wp2
          go_roundw
          case rel => exact ⟨k + 1, by omega, by go_num, HI2, D2⟩
          case measure => simp [intOf]; omega
    · have HBT : Hid (ilB m s t = true) := by
        show _ = _
        rw [HE.out]
        exact ilP_iff.2 fun i j p q h1 h2 h3 => hI.out i j p q (by rw [HPS.out] at h1; have := lt_of_at h1; have := HNN.out; omega) h3 (by rw [← HPS.out]; exact h1) (by rw [← HPS.out]; exact h2)
      go_wp2
      go_ret
      exact ⟨by rw [HBT.out]; rfl, hBf.trans (hd.mono hBf.size)⟩

end Go.Proofs.Ytbdbfbobcdepgaa
