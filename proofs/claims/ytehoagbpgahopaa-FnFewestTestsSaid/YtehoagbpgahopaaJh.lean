/- Walks: which tests a pattern meets, as bits; slices of such numbers. -/
import Derived.Test.YtehoagbpgahopaaTb
import Derived.Test.YtehoagbpgahopaaTd
namespace Go.Proofs.Ytehoagbpgahopaa
open Go.RowKit

theorem wrap_u64 {n : Nat} (h : n < 2 ^ 64) : IntKind.u64.wrap (n : Int) = n := by
  simp [IntKind.wrap, IntKind.bits, IntKind.signed]; omega
theorem bits_or {x y : Nat} (hx : x < 2 ^ 64) (hy : y < 2 ^ 64) : bits BinOp.or IntKind.u64 (x : Int) (y : Int) = ((x ||| y : Nat) : Int) := by
  have h3 : x ||| y < 2 ^ 64 := Nat.or_lt_two_pow hx hy
  have e : bits BinOp.or IntKind.u64 (x : Int) (y : Int) = IntKind.u64.wrap ((BitVec.ofInt 64 (x : Int) ||| BitVec.ofInt 64 (y : Int)).toNat : Nat) := rfl
  rw [e, BitVec.ofInt_natCast, BitVec.ofInt_natCast, BitVec.toNat_or, BitVec.toNat_ofNat, BitVec.toNat_ofNat, Nat.mod_eq_of_lt hx, Nat.mod_eq_of_lt hy, wrap_u64 h3]
theorem bits_and {x y : Nat} (hx : x < 2 ^ 64) (hy : y < 2 ^ 64) : bits BinOp.and IntKind.u64 (x : Int) (y : Int) = ((x &&& y : Nat) : Int) := by
  have h3 : x &&& y < 2 ^ 64 := Nat.and_lt_two_pow _ hy
  have e : bits BinOp.and IntKind.u64 (x : Int) (y : Int) = IntKind.u64.wrap ((BitVec.ofInt 64 (x : Int) &&& BitVec.ofInt 64 (y : Int)).toNat : Nat) := rfl
  rw [e, BitVec.ofInt_natCast, BitVec.ofInt_natCast, BitVec.toNat_and, BitVec.toNat_ofNat, BitVec.toNat_ofNat, Nat.mod_eq_of_lt hx, Nat.mod_eq_of_lt hy, wrap_u64 h3]
theorem bits_not {x y : Nat} (hx : x < 2 ^ 64) (hy : y < 2 ^ 64) : bits BinOp.andNot IntKind.u64 (x : Int) (y : Int) = 0 ↔ ∀ k, x.testBit k = true → y.testBit k = true := by
  have e : bits BinOp.andNot IntKind.u64 (x : Int) (y : Int) = IntKind.u64.wrap ((BitVec.ofInt 64 (x : Int) &&& ~~~BitVec.ofInt 64 (y : Int)).toNat : Nat) := rfl
  rw [e, wrap_u64 (BitVec.isLt _), BitVec.ofInt_natCast, BitVec.ofInt_natCast]
  constructor
  · intro h k hk
    have h0 : (BitVec.ofNat 64 x &&& ~~~BitVec.ofNat 64 y) = 0#64 := BitVec.eq_of_toNat_eq (by simpa using h)
    have hk64 : k < 64 := by
      apply Classical.byContradiction; intro hc
      have : x.testBit k = false := Nat.testBit_lt_two_pow (Nat.lt_of_lt_of_le hx (Nat.pow_le_pow_right (by decide) (by omega)))
      rw [this] at hk; cases hk
    have h1 : (BitVec.ofNat 64 x &&& ~~~BitVec.ofNat 64 y).getLsbD k = false := by rw [h0]; simp
    rw [BitVec.getLsbD_and, BitVec.getLsbD_not, BitVec.getLsbD_ofNat, BitVec.getLsbD_ofNat] at h1
    simpa [hk64, hk] using h1
  · intro h
    have h0 : (BitVec.ofNat 64 x &&& ~~~BitVec.ofNat 64 y) = 0#64 := by
      apply BitVec.eq_of_getLsbD_eq
      intro i hi
      rw [BitVec.getLsbD_and, BitVec.getLsbD_not, BitVec.getLsbD_ofNat, BitVec.getLsbD_ofNat]
      have hh := h i
      revert hh
      cases x.testBit i <;> cases y.testBit i <;> simp [hi]
    rw [h0]; rfl
theorem pow_u64 {k : Nat} (hk : k < 63) : IntKind.u64.wrap ((2 : Int) ^ k) = ((2 ^ k : Nat) : Int) := by
  have h1 : (2 : Nat) ^ k < 2 ^ 64 := Nat.pow_lt_pow_right (by decide) (by omega)
  have : ((2 : Int) ^ k) = ((2 ^ k : Nat) : Int) := by push_cast; rfl
  rw [this, wrap_u64 h1]
theorem or_bit {X k : Nat} (h : X < 2 ^ k) (hk : k < 63) : bits BinOp.or IntKind.u64 (X : Int) (IntKind.u64.wrap (2 ^ k)) = ((X + 2 ^ k : Nat) : Int) := by
  have h1 : (2 : Nat) ^ k < 2 ^ 63 := Nat.pow_lt_pow_right (by decide) hk
  rw [pow_u64 hk, bits_or (by omega) (by omega)]
  have := Nat.two_pow_add_eq_or_of_lt h 1
  rw [Nat.mul_one] at this
  rw [Nat.or_comm, ← this, Nat.add_comm]

set_option maxRecDepth 100000 in
set_option maxHeartbeats 4000000 in
theorem i_indicesMet {s : List (List Int)} {p : List Int} {v : Value} {B n : Nat} {w0 w : World} (ho : OwnP w0 B v s) (hb0 : Below w0.heap.size w0 w) (hl : s.length ≤ 60) (hr : ∀ r ∈ s, r.length = n) (hp : p.length = n) (hn : n ≤ 5) :
    Calls Try.prog 175 #[.agg #[.int .i64 (at5 p 0), .int .i64 (at5 p 1), .int .i64 (at5 p 2), .int .i64 (at5 p 3), .int .i64 (at5 p 4)], v] w (NewV w (.int .u64 (bitN (rowB s p) : Nat))) := by
  obtain ⟨av, cv, rfl, hat⟩ := ho.at
  have HAT := Lib.hid hat
  have HR := Lib.hid hr
  have HP := Lib.hid hp
  have hs0 := hb0.size
  obtain ⟨N, hN⟩ : ∃ N, s.length = N := ⟨_, rfl⟩
  have HN := Lib.hid hN
  have hNl : N ≤ 60 := by omega
  rw [hN] at HAT ⊢
  have hA := Lib.hid (heap_alloc_new w (.cells #[.int .i64 (at5 p 0), .int .i64 (at5 p 1), .int .i64 (at5 p 2), .int .i64 (at5 p 3), .int .i64 (at5 p 4)] 97))
  have hbA := (Below.refl w.heap.size w).alloc (Nat.le_refl _) (.cells #[.int .i64 (at5 p 0), .int .i64 (at5 p 1), .int .i64 (at5 p 2), .int .i64 (at5 p 3), .int .i64 (at5 p 4)] 97)
  obtain ⟨W, hWe⟩ : ∃ W, w.alloc (.cells #[.int .i64 (at5 p 0), .int .i64 (at5 p 1), .int .i64 (at5 p 2), .int .i64 (at5 p 3), .int .i64 (at5 p 4)] 97) = W := ⟨_, rfl⟩
  have hWs : W.heap.size = w.heap.size + 1 := by rw [← hWe]; simp
  have hWl : w.heap.size + 1 ≤ W.heap.size ∧ W.heap.size ≤ w.heap.size + 1 := by omega
  rw [hWe] at hA hbA
  clear hat ho hr hp hN hl hWs
  go_enter Try.func175, Try.ntmps175
  go_wp2_with fail
  try rw [hWe]
  clear hWe
  go_wp2
  go_loopw [5, 10] (fun v i wr => ∃ (k X : Nat), k ≤ N ∧ i = .int .i64 k ∧ v = .int .u64 (X : Nat) ∧ Hid (X = bitN (rowB (s.take k) p) ∧ X < 2 ^ k) ∧ Below W.heap.size W wr) (fun _ i _ => N - (intOf i).toNat)
  case atStart => exact ⟨0, 0, Nat.zero_le _, rfl, rfl, ⟨by simp [rowB, bitN], by decide⟩, Below.refl _ _⟩
  case round =>
    obtain ⟨k, X, hk, rfl, rfl, HX, hB3⟩ := hrel
    have hz3 := hB3.size
    by_cases hlt : k < N
    · obtain ⟨x, hx⟩ := at_of_lt (show k < s.length by have := HN.out; omega)
      obtain ⟨g, hg1, hg2, hidx, hcs⟩ := HAT.out k x hx
      have hbb : Below w0.heap.size w0 wr := hb0.trans ((hbA.trans (hB3.mono (by omega))).mono (by omega))
      have hc (j : Nat) (hj : j < 5) : wr.cell? ⟨g, k * 5 + j, none⟩ = some (.int .i64 (at5 x j)) := (hbb.cell (p := ⟨g, k * 5 + j, none⟩) hg2).trans (hcs j hj)
      have hc0 := hc 0 (by omega)
      have hc1 := hc 1 (by omega)
      have hc2 := hc 2 (by omega)
      have hc3' := hc 3 (by omega)
      have hc4 := hc 4 (by omega)
      simp only [Nat.add_zero] at hc0
      have HME : Hid (meet5 (at5 p) (at5 x) = mB p x) := by
        have h5 := HR.out x (List.mem_of_getElem? hx)
        have h6 := HP.out
        exact meet5_mB (by omega) (by omega)
      have HST : Hid (bitN (rowB (s.take (k + 1)) p) = X + (if mB p x then 2 ^ k else 0) ∧ X < 2 ^ k) := by
        refine ⟨?_, HX.out.2⟩
        unfold rowB
        rw [take_snoc hx, List.map_append, List.map_singleton, bitN_snoc, List.length_map, List.length_take, Nat.min_eq_left (by have := HN.out; omega)]
        have := HX.out.1
        unfold rowB at this
        rw [← this]
      have hbB := (Below.refl wr.heap.size wr).alloc (Nat.le_refl _) (.cells #[.int .i64 (at5 x 0), .int .i64 (at5 x 1), .int .i64 (at5 x 2), .int .i64 (at5 x 3), .int .i64 (at5 x 4)] 97)
      obtain ⟨e0, e1, e2, e3, e4⟩ := cells5 ((hbB.block w.heap.size (by omega)).trans ((hB3.block w.heap.size (by omega)).trans hA.out))
      clear hx hc hcs HX hbb
      cases hmx : mB p x
      · have HM := Lib.hid hmx
        rw [hmx] at HST
        clear hmx
        go_wp2_with fail
        refine (i_meets (at5 p) (at5 x) _).mono ?_
        rintro e w2 ⟨rfl, hb2⟩
        rw [HME.out, HM.out]
        have hB5 : Below W.heap.size W w2 := hB3.trans ((hbB.trans (hb2.mono (by simp))).mono (by omega))
        clear hbB hb2 hB3 e0 e1 e2 e3 e4 hc0 hc1 hc2 hc3' hc4
        go_wp2
        go_roundw
        case rel => exact ⟨k + 1, X, by omega, by go_num, rfl, ⟨by rw [HST.out.1]; simp, by have := HST.out.2; rw [Nat.pow_succ]; omega⟩, hB5⟩
        case measure => simp [intOf]; omega
      · have HM := Lib.hid hmx
        rw [hmx] at HST
        clear hmx
        go_wp2_with fail
        refine (i_meets (at5 p) (at5 x) _).mono ?_
        rintro e w2 ⟨rfl, hb2⟩
        rw [HME.out, HM.out]
        have hB5 : Below W.heap.size W w2 := hB3.trans ((hbB.trans (hb2.mono (by simp))).mono (by omega))
        clear hbB hb2 hB3 e0 e1 e2 e3 e4 hc0 hc1 hc2 hc3' hc4
        go_wp2
        go_roundw
        case rel => exact ⟨k + 1, X + 2 ^ k, by omega, by go_num, by rw [or_bit HST.out.2 (by omega)], ⟨by rw [HST.out.1]; simp, by have := HST.out.2; rw [Nat.pow_succ]; omega⟩, hB5⟩
        case measure => simp [intOf]; omega
    · have hkN : k = N := by omega
      have HE : Hid (X = bitN (rowB s p)) := by
        have h := HX.out.1
        rwa [List.take_of_length_le (by have := HN.out; omega)] at h
      go_wp2
      go_ret
      rw [HE.out]
      exact ⟨rfl, hbA.trans (hB3.mono (by omega))⟩

theorem undU : Try.prog.underlying 133 = some (.slice 134) := by kernel_rfl
theorem sizeU (w : World) : (sizeOf 134).run Try.prog w = .ok 1 w := by kernel_rfl
theorem infoU : (Try.prog.info? 134).map (fun i => (i.zero, i.size, i.bytes)) = some (some (.int .u64 0), 1, 8) := by kernel_rfl
/-- v owns, from block B on, n numbers l -/
def OwnUs (w : World) (B : Nat) (v : Value) (n : Nat) (l : List Value) : Prop := w.ownsRow B 134 1 v n l ∧ l.length = n
theorem OwnUs.nil (w : World) (B : Nat) : OwnUs w B (.slice none 0 0) 0 [] := ⟨World.ownsRow_nil _ _ _ _, rfl⟩
theorem OwnUs.lt {w : World} {B n : Nat} {v : Value} {l : List Value} (h : OwnUs w B v n l) : ∀ g, v.ownBlock = some g → B ≤ g ∧ g < w.heap.size := World.ownsRow.lt h.1
theorem OwnUs.kept {w w' : World} {B n : Nat} {v : Value} {l : List Value} (h : OwnUs w B v n l) (hb : ∀ k, k < w.heap.size → v.ownBlock = some k → w'.heap[k]? = w.heap[k]?) : OwnUs w' B v n l := by
  have hlt := h.lt
  obtain ⟨⟨h1, h2⟩, h0⟩ := h
  refine ⟨⟨h1, ?_⟩, h0⟩
  rcases h2 with h2 | ⟨g, cap, cur, rfl, hB, hg, rest⟩
  · exact .inl h2
  · exact .inr ⟨g, cap, cur, rfl, hB, by rw [hb g (hlt g rfl).2 rfl]; exact hg, rest⟩
theorem OwnUs.at {w : World} {B n : Nat} {v : Value} {l : List Value} (h : OwnUs w B v n l) : ∃ a c, v = .slice a n c ∧ ∀ (k : Nat) (u : Value), l[k]? = some u → ∃ g, B ≤ g ∧ g < w.heap.size ∧
    (∀ wx, (Instr.indexAt 133 (.slice a n c) (.int .i64 (k : Int))).run Try.prog wx = .ok (.pointer (some ⟨g, k, none⟩)) wx) ∧ w.cell? ⟨g, k, none⟩ = some u := by
  have hlt := h.lt
  have hn := h.2
  rcases h.1.2 with ⟨rfl, h0⟩ | ⟨g, cap, cur, rfl, hb, hg, hn', hm, hs, ht⟩
  · have e : l = [] := List.eq_nil_of_length_eq_zero (by omega)
    subst e; subst h0
    exact ⟨none, 0, rfl, by simp⟩
  · refine ⟨_, _, rfl, fun k u e => ⟨g, hb, (hlt g rfl).2, fun wx => ?_, ?_⟩⟩
    · have hk := lt_of_at e
      have h1 := sizeU wx
      have hkn : k < n := by omega
      simp [Instr.indexAt, run_underlying undU, asIntOf, hkn, Addr.add]
      try omega
    · rw [cell_of_row w g _ cur _ (0, 0) hg]
      have e2 := e
      rw [← ht, List.getElem?_take] at e2
      split at e2
      · simpa using e2
      · cases e2

/-- append of one number -/
theorem wpList_appUs {wr : World} {ops : Array Oper} {rest : List Oper} {o : Oper} {a : Act} {Q : Exit → Act → World → Prop} (hgd : o.guard = none) (s t : Operand)
    (ho : o.op = .call { callee := .builtin .append, args := #[s, t], argTypes := #[133, 133] }) (B n : Nat) (v : Value) (l : List Value) (hs : a.eval s = v) (hown : OwnUs wr B v n l) (x : Value)
    (nw : Nat) (hx : a.eval t = .slice (some ⟨nw, 0, none⟩) 1 1) (hnw : nw = wr.heap.size) (hxu : x.oneCell' = true) (hl : n ≤ 1099511627776) (hB : B ≤ wr.heap.size)
    (h : ∀ v' w', OwnUs w' B v' (n + 1) (l ++ [x]) → Below B wr w' → wpList Try.prog ops Q rest (a.put o.dst v') w') : wpList Try.prog ops Q (o :: rest) a (wr.alloc (.cells #[x] 134)) := by
  subst hnw
  obtain ⟨i0, hi, hz0, hz1, hz2⟩ := info_parts infoU
  refine wpList_append_own _ hgd s t 133 ho B 134 i0 (.int .u64 0) 1 8 undU hi hz0 hz1 hz2 rfl (by decide) v n l hs (World.ownsRow.alloc hown.1 _) ⟨wr.heap.size, 0, none⟩ 1 1 [x] hx rfl ?_ ?_ ?_ ?_ ?_ ?_
  · exact cell_one_new _ _ _
  · intro u hu
    have : u = x := by simpa using hu
    subst this; exact hxu
  · unfold maxLen; omega
  · omega
  · simp; omega
  · intro v' w' h1 h2 _
    refine h v' w' ⟨h1, by simp [hown.2]⟩ ?_
    refine (((Below.refl B wr).alloc hB _).grown h2 (by simp; omega) fun k hk => ?_)
    exact (hown.lt k hk).1

/-- which tests the patterns meet, as numbers -/
def ixV (s ps : List (List Int)) : List Value := ps.map fun p => .int .u64 (bitN (rowB s p) : Nat)
theorem ixV_snoc {s ps : List (List Int)} {k : Nat} {p : List Int} (h : ps[k]? = some p) : ixV s (ps.take (k + 1)) = ixV s (ps.take k) ++ [.int .u64 (bitN (rowB s p) : Nat)] := by
  unfold ixV; rw [take_snoc h, List.map_append]; rfl
theorem ixV_at {s ps : List (List Int)} {k : Nat} {p : List Int} (h : ps[k]? = some p) : (ixV s ps)[k]? = some (.int .u64 (bitN (rowB s p) : Nat)) := by
  unfold ixV; rw [List.getElem?_map, h]; rfl
/-- a call that makes them -/
def NewUs (w : World) (s ps : List (List Int)) (e : Ending) (w' : World) : Prop := ∃ v, e = .returned v ∧ OwnUs w' w.heap.size v ps.length (ixV s ps) ∧ Below w.heap.size w w'

set_option maxRecDepth 100000 in
set_option maxHeartbeats 4000000 in
theorem i_indicesOf {m : List Int} {s : List (List Int)} {a a' : Option Addr} {c c' lo hi lo' hi' : Nat} {w : World} {t : Int} (hok : okM m = true) (hm : RI w lo hi a m) (hB : hi ≤ w.heap.size) (hs : RII w lo' hi' a' s) (hB' : hi' ≤ w.heap.size) (hsl : s.length ≤ 60) (hr : ∀ r ∈ s, r.length = m.length) (ht0 : 0 ≤ t) (ht1 : t ≤ m.length) :
    Calls Try.prog 208 #[.slice a m.length c, .slice a' s.length c', .int .i64 t] w (NewUs w s (patS m [] t)) := by
  have hm5 := okM_len hok
  have HOK := Lib.hid hok; clear hok
  have HR := Lib.hid hr; clear hr
  have HPL := Lib.hid (patS_len (head := []) HOK.out t)
  have HPR := Lib.hid (patS_row (m := m) (t := t))
  go_enter Try.func208, Try.ntmps208
  go_wp2_with fail
  refine (i_patternsIn hs hB' (by omega) (fun r hr => by have := HR.out r hr; omega)).mono ?_
  rintro e w1 ⟨v1, rfl, ho1, hb1⟩
  obtain ⟨av1, cv1, hv1, _⟩ := ho1.at
  subst hv1
  have hz1 := hb1.size
  have hm1 := hm.below hb1 hB
  clear hm hs
  go_wp2_with fail
  refine (i_patternsOf HOK.out hm1 (by omega) ht0 ht1).mono ?_
  rintro e w2 ⟨v2, rfl, ho2, hb2⟩
  have hz2 := hb2.size
  obtain ⟨av, cv, hv2, hat⟩ := ho2.at
  subst hv2
  have HAT := Lib.hid hat
  obtain ⟨ps, hps⟩ : ∃ ps, patS m [] t = ps := ⟨_, rfl⟩
  have HPS := Lib.hid hps
  rw [hps] at HAT HPL HPR ⊢
  obtain ⟨N, hN⟩ : ∃ N, ps.length = N := ⟨_, rfl⟩
  have HN := Lib.hid hN
  have hNl : N ≤ 1024 := by have := HPL.out; omega
  rw [hN] at HAT ⊢
  have HO1 := Lib.hid ho1
  have hb02 := hb1.trans (hb2.mono hz1)
  clear hN hps hat ho2 ho1 hm1
  go_wp2
  go_loopw [8, 17] (fun v i wr => ∃ (k : Nat) (u : Value), k ≤ N ∧ i = .int .i64 k ∧ u = v ∧ OwnUs wr w2.heap.size u k (ixV s (ps.take k)) ∧ Below w2.heap.size w2 wr) (fun _ i _ => N - (intOf i).toNat)
  case atStart => exact ⟨0, _, Nat.zero_le _, rfl, rfl, OwnUs.nil _ _, Below.refl _ _⟩
  case round =>
    obtain ⟨k, u, hk, rfl, rfl, hown, hB3⟩ := hrel
    have hz3 := hB3.size
    by_cases hlt : k < N
    · obtain ⟨p, hx⟩ := at_of_lt (show k < ps.length by have := HN.out; omega)
      obtain ⟨g, hg1, hg2, hidx, hcs⟩ := HAT.out k p hx
      have hc (j : Nat) (hj : j < 5) : wr.cell? ⟨g, k * 5 + j, none⟩ = some (.int .i64 (at5 p j)) := (hB3.cell (p := ⟨g, k * 5 + j, none⟩) hg2).trans (hcs j hj)
      have hc0 := hc 0 (by omega)
      have hc1 := hc 1 (by omega)
      have hc2 := hc 2 (by omega)
      have hc3' := hc 3 (by omega)
      have hc4 := hc 4 (by omega)
      simp only [Nat.add_zero] at hc0
      have hpl := Lib.hid (HPR.out p (List.mem_of_getElem? hx))
      have hbA := (Below.refl wr.heap.size wr).alloc (Nat.le_refl _) (.cells #[.int .i64 (at5 p 0), .int .i64 (at5 p 1), .int .i64 (at5 p 2), .int .i64 (at5 p 3), .int .i64 (at5 p 4)] 97)
      have HC := Lib.hid (i_indicesMet (w := wr.alloc (.cells #[.int .i64 (at5 p 0), .int .i64 (at5 p 1), .int .i64 (at5 p 2), .int .i64 (at5 p 3), .int .i64 (at5 p 4)] 97)) (v := .slice av1 s.length cv1) HO1.out (hb2.trans ((hB3.trans (hbA.mono (by omega))).mono (by omega))) hsl HR.out hpl.out hm5.2)
      have hlt' := hown.lt
      have HT : Hid (ixV s (ps.take k) ++ [.int .u64 (bitN (rowB s p) : Nat)] = ixV s (ps.take (k + 1))) := (ixV_snoc hx).symm
      obtain ⟨X, hX⟩ : ∃ X, bitN (rowB s p) = X := ⟨_, rfl⟩
      rw [hX] at HC HT
      clear hx hc hcs hX
      go_wp2_with fail
      refine HC.out.mono ?_
      rintro e w4 ⟨rfl, hb4⟩
      have hb04 : Below wr.heap.size wr w4 := hbA.trans (hb4.mono (by simp))
      have hz4 := hb04.size
      have hown4 : OwnUs w4 w2.heap.size u k (ixV s (ps.take k)) := hown.kept fun j hj _ => hb04.block j hj
      clear hbA hb4 hown hc0 hc1 hc2 hc3' hc4 HC
      go_wp2_with (first
        | (at_builtin; refine wpList_appUs rfl (.tmp 21) (.tmp 25) rfl w2.heap.size k _ _ rfl hown4 (.int .u64 (X : Nat)) _ rfl rfl rfl (by omega) (by omega) ?_; intro v5 w5 hown5 hb5)
        | go_in)
      rw [HT.out] at hown5
      have hB5 : Below w2.heap.size w2 w5 := (hB3.trans (hb04.mono hz3)).trans hb5
      clear hB3 hb04 hb5 hown4
      go_roundw
      case rel => exact ⟨k + 1, _, by omega, by go_num, rfl, hown5, hB5⟩
      case measure => simp [intOf]; omega
    · have hkN : k = N := by omega
      have HK : Hid (ixV s (ps.take k) = ixV s ps) := by show _ = _; rw [List.take_of_length_le (by have := HN.out; omega)]
      rw [HK.out] at hown
      subst hkN
      go_wp2
      go_ret
      exact ⟨_, rfl, by rw [HPS.out, HN.out]; exact ⟨⟨hown.1.1, by rcases hown.1.2 with h | ⟨g, cap, cur, e1, e2, e3⟩; exact .inl h; exact .inr ⟨g, cap, cur, e1, by omega, e3⟩⟩, hown.2⟩, hb02.trans (hB3.mono (by omega))⟩

end Go.Proofs.Ytehoagbpgahopaa
