/- A map whose keys are sets of factors and whose elements are numbers. -/
import Derived.Maps.OwnSet
import Derived.Test.YtehoagbpgahopaaMap
import Derived.Test.YtehoagbpgahopaaZb
import Derived.Test.YtehoagbpgahopaaTc
namespace Go.Proofs.Ytehoagbpgahopaa
open Go.RowKit

theorem rowFs : (120 : TypeId) < Try.prog.types.size := of_decide_eq_true (by kernel_rfl)
theorem wideFs : (match Try.prog.underlying 120 with | some (.array _ _) | some (.struct _) => true | _ => false) = true := by rw [undFs]
set_option maxRecDepth 100000 in
theorem keyedFs : Maps.Keyed Try.prog 120 := Maps.Keyed.of_law (deep_law_laid laidOutK (m := 2) (by omega) rowFs (by kernel_rfl) wideFs)
theorem undMapF : Try.prog.underlying 118 = some (.map 120 3) := by kernel_rfl
theorem zeroIntF (w : World) : (zeroValue 3).run Try.prog w = .ok (.int .i64 0) w := by kernel_rfl
theorem cellsFs : Try.prog.cellsOf 120 = 5 := by kernel_rfl
theorem cellsBool0 : Try.prog.cellsOf 4 = 1 := by kernel_rfl
theorem isKeyFs : Try.prog.keyType 120 = true := by kernel_rfl
theorem keyF_some (F : Nat → Bool) : ∃ kl, keyOf Try.prog 120 (.agg #[.bool (F 0), .bool (F 1), .bool (F 2), .bool (F 3), .bool (F 4)]) = some kl := by
  have hf : Value.formed Try.prog 120 (.agg #[.bool (F 0), .bool (F 1), .bool (F 2), .bool (F 3), .bool (F 4)]) = true := by simp [Value.formed, cellsFs]
  have hl : ∀ d, Try.prog.keyLits (d + 2) 120 [.bool (F 0), .bool (F 1), .bool (F 2), .bool (F 3), .bool (F 4)] = some [.bool (F 0), .bool (F 1), .bool (F 2), .bool (F 3), .bool (F 4)] := by
    intro d
    simp [Program.keyLits, cellsFs, cellsBool0, List.range, List.range.loop]
  unfold keyOf
  rw [undFs]
  simp [isKeyFs, hf, Value.cells]
  exact ⟨_, _, hl _, rfl⟩
/-- the set of a pattern's factors as a key -/
noncomputable def keyF (p : List Int) : Lit := (keyOf Try.prog 120 (.agg #[.bool (bF (at5 p) 0), .bool (bF (at5 p) 1), .bool (bF (at5 p) 2), .bool (bF (at5 p) 3), .bool (bF (at5 p) 4)])).getD (.bool false)
theorem keyF_eq (p : List Int) : keyOf Try.prog 120 (.agg #[.bool (bF (at5 p) 0), .bool (bF (at5 p) 1), .bool (bF (at5 p) 2), .bool (bF (at5 p) 3), .bool (bF (at5 p) 4)]) = some (keyF p) := by
  obtain ⟨kl, hk⟩ := keyF_some (bF (at5 p))
  unfold keyF
  rw [hk]; rfl
theorem keyF_same {p q : List Int} (hl : p.length = q.length) (h : alB p q = true) : keyF p = keyF q := by
  have h1 := (alB_iff hl).1 h
  have h2 : ∀ i, bF (at5 p) i = bF (at5 q) i := fun i => by
    have := h1 i
    unfold bF bne
    rw [this]
  have h3 := keyF_eq p
  rw [h2 0, h2 1, h2 2, h2 3, h2 4, keyF_eq q] at h3
  exact (Option.some.inj h3).symm
set_option maxRecDepth 100000 in
theorem keyF_inj {p q : List Int} (hl : p.length = q.length) (h5 : p.length ≤ 5) (h : keyF p = keyF q) : alB p q = true := by
  have h1 := keyedFs.inj (keyF_eq p) (h ▸ keyF_eq q)
  have h2 : bF (at5 p) 0 = bF (at5 q) 0 ∧ bF (at5 p) 1 = bF (at5 q) 1 ∧ bF (at5 p) 2 = bF (at5 q) 2 ∧ bF (at5 p) 3 = bF (at5 q) 3 ∧ bF (at5 p) 4 = bF (at5 q) 4 := by simpa using h1
  rw [alB_iff hl]
  intro i
  by_cases hi : i < 5
  · have h3 : bF (at5 p) i = bF (at5 q) i := by
      obtain rfl | rfl | rfl | rfl | rfl : i = 0 ∨ i = 1 ∨ i = 2 ∨ i = 3 ∨ i = 4 := by omega
      · exact h2.1
      · exact h2.2.1
      · exact h2.2.2.1
      · exact h2.2.2.2.1
      · exact h2.2.2.2.2
    unfold bF bne at h3
    simpa using h3
  · rw [at5_out (by omega), at5_out (by omega)]
theorem keyF_ne {p q : List Int} (hl : p.length = q.length) (h5 : p.length ≤ 5) (h : alB p q = false) : keyF p ≠ keyF q := by
  intro e
  rw [keyF_inj hl h5 e] at h
  cases h
theorem alB_refl (p : List Int) : alB p p = true := (alB_iff rfl).2 fun _ => rfl
theorem alB_trans {p q r : List Int} (h1 : p.length = q.length) (h2 : q.length = r.length) (a : alB p q = true) (b : alB q r = true) : alB p r = true :=
  (alB_iff (h1.trans h2)).2 fun i => ((alB_iff h1).1 a i).trans ((alB_iff h2).1 b i)
theorem alB_symm {p q : List Int} (h1 : p.length = q.length) (a : alB p q = true) : alB q p = true := (alB_iff h1.symm).2 fun i => ((alB_iff h1).1 a i).symm

/-- block b is a map: of the patterns those of qs have been put in, each with f of it; those alike have the same f -/
structure Mf (w : World) (b n : Nat) (N : Nat) (qs : List (List Int)) (f : List Int → Nat) : Prop where
  own : ∃ D : DataW Unit, w.ownsMap Try.prog 120 (plainElem Try.prog 3) b n D ∧ ∀ p : List Int, p.length = N → (Maps.has D (keyF p) = qs.any (alB p)) ∧ ∀ q ∈ qs, alB p q = true → D.atKey (keyF p) (.lit (.int .i64 0)) = .lit (.int .i64 (f q : Int))
  len : ∀ q ∈ qs, q.length = N
  same : ∀ p ∈ qs, ∀ q ∈ qs, alB p q = true → f p = f q
theorem Mf.made (w : World) (N : Nat) (f : List Int → Nat) : Mf (w.alloc (.map #[] 0)) w.heap.size 0 N [] f :=
  ⟨⟨_, World.ownsMap_made w _ _ _, fun p _ => ⟨by rfl, by simp⟩⟩, by simp, by simp⟩
theorem Mf.lt {w : World} {b n N : Nat} {qs : List (List Int)} {f : List Int → Nat} (h : Mf w b n N qs f) : b < w.heap.size := by
  obtain ⟨D, h1, _⟩ := h.own; exact h1.lt
theorem Mf.below {w w' : World} {b n N B : Nat} {qs : List (List Int)} {f : List Int → Nat} (h : Mf w b n N qs f) (hb : Below B w w') (hB : b < B) : Mf w' b n N qs f := by
  obtain ⟨D, ⟨es, clock, h1, r⟩, h2⟩ := h.own
  exact ⟨⟨D, ⟨es, clock, (hb.block b hB).trans h1, r⟩, h2⟩, h.len, h.same⟩
theorem any_snoc {qs : List (List Int)} {l : List Int} {p : List Int} : (qs ++ [l]).any (alB p) = (qs.any (alB p) || alB p l) := by simp

set_option maxRecDepth 100000 in
/-- a pattern's number is put in -/
theorem wpList_putF {w : World} {ops : Array Oper} {rest : List Oper} {o : Oper} {a : Act} {Q : Exit → Act → World → Prop} (hg : o.guard = none) (m x v : Operand) (hop : o.op = Op.mapUpdate 118 m x v)
    (b n : Nat) {N : Nat} {qs : List (List Int)} {f : List Int → Nat} (hm : a.eval m = .map (some b)) (hown : Mf w b n N qs f) (hn : n ≤ 1048576) (l : List Int) (hl : l.length = N) (h5 : N ≤ 5) (hf : f l ≤ 1048576) (hsame : ∀ q ∈ qs, alB l q = true → f q = f l)
    (hx : a.eval x = .agg #[.bool (bF (at5 l) 0), .bool (bF (at5 l) 1), .bool (bF (at5 l) 2), .bool (bF (at5 l) 3), .bool (bF (at5 l) 4)]) (hv : a.eval v = .int .i64 (f l : Int))
    (hK : ∀ w', Mf w' b (n + 1) N (qs ++ [l]) f → Upd b (b + 1) w w' → wpList Try.prog ops Q rest (a.put o.dst undef) w') : wpList Try.prog ops Q (o :: rest) a w := by
  obtain ⟨⟨D, h1, h2⟩, hlen, hsm⟩ := hown
  have hwf : (Lit.int .i64 (f l : Int)).wf = true := WalkArith.wf_i64 (by omega)
  refine wpList_mapUpdate_own _ hg m x v 118 hop 120 3 keyedFs undMapF _ b n D hm h1 (by unfold maxLen; omega) _ _ (keyF l) hx hv (keyF_eq l) _ [] (plainElem_int undInt0 hwf) ?_
  intro w' hw hgr
  refine hK w' ⟨⟨_, hw, fun p hp => ?_⟩, ?_, ?_⟩ (.ofGrown hgr)
  · cases hal : alB p l
    · have hne := keyF_ne (hp.trans hl.symm) (by omega) hal
      rw [Maps.has_put_other hne, Maps.atKey_put_other hne]
      refine ⟨by rw [any_snoc, hal, Bool.or_false]; exact (h2 p hp).1, fun q hq ha => ?_⟩
      rcases List.mem_append.1 hq with hq | hq
      · exact (h2 p hp).2 q hq ha
      · rw [List.mem_singleton] at hq; subst hq; rw [hal] at ha; cases ha
    · have he := keyF_same (hp.trans hl.symm) hal
      rw [he, Maps.has_put_same h1.isMap (keyedFs.key (keyF_eq l)), Maps.atKey_put_same h1.isMap (keyedFs.key (keyF_eq l))]
      refine ⟨by rw [any_snoc, hal, Bool.or_true], fun q hq ha => ?_⟩
      rcases List.mem_append.1 hq with hq | hq
      · rw [hsame q hq (alB_trans (hl.trans hp.symm) (hp.trans (hlen q hq).symm) (alB_symm (hp.trans hl.symm) hal) ha)]
      · rw [List.mem_singleton] at hq; rw [hq]
  · intro q hq
    rcases List.mem_append.1 hq with hq | hq
    · exact hlen q hq
    · rw [List.mem_singleton] at hq; rw [hq]; exact hl
  · intro p hp q hq ha
    rcases List.mem_append.1 hp with hp1 | hp1 <;> rcases List.mem_append.1 hq with hq1 | hq1
    · exact hsm p hp1 q hq1 ha
    · rw [List.mem_singleton] at hq1; rw [hq1] at ha ⊢; exact hsame p hp1 (alB_symm ((hlen p hp1).trans hl.symm) ha)
    · rw [List.mem_singleton] at hp1; rw [hp1] at ha ⊢; exact (hsame q hq1 ha).symm
    · rw [List.mem_singleton] at hp1 hq1; rw [hp1, hq1]

set_option maxRecDepth 100000 in
/-- .. is looked up -/
theorem wpList_lookF {w : World} {ops : Array Oper} {rest : List Oper} {o : Oper} {a : Act} {Q : Exit → Act → World → Prop} (hg : o.guard = none) (m x : Operand) (hop : o.op = Op.lookup 118 m x true)
    (b n : Nat) {N : Nat} {qs : List (List Int)} {f : List Int → Nat} (hm : a.eval m = .map (some b)) (hown : Mf w b n N qs f) (l : List Int) (hl : l.length = N) (hx : a.eval x = .agg #[.bool (bF (at5 l) 0), .bool (bF (at5 l) 1), .bool (bF (at5 l) 2), .bool (bF (at5 l) 3), .bool (bF (at5 l) 4)]) (y : Bool) (hy : qs.any (alB l) = y)
    (hK : ∀ z : Int, Hid (∀ q ∈ qs, alB l q = true → z = (f q : Int)) → wpList Try.prog ops Q rest (a.put o.dst (.tuple #[.int .i64 z, .bool y])) w) : wpList Try.prog ops Q (o :: rest) a w := by
  subst hy
  obtain ⟨⟨D, h1, h2⟩, hlen, hsm⟩ := hown
  obtain ⟨v, pl, hrun, hv⟩ := h1.look_ok keyedFs undMapF (zeroIntF w) (plainElem_int undInt0 (by decide)) (keyF_eq l)
  obtain ⟨c, rfl, hc, hwc⟩ := plainElem_int_inv undInt0 hv
  have hc1 : D.atKey (keyF l) (.lit (.int .i64 0)) = .lit (.int .i64 c) := congrArg Prod.fst hc
  have h3 := h2 l hl
  refine wpList_plain hg fun K' hK' => ?_
  unfold Oper.wp
  simp [execOp, hop, hm, hx, hrun, Result.andThen]
  rw [h3.1]
  refine hK' _ _ (hK c fun q hq ha => ?_)
  have h4 := h3.2 q hq ha
  rw [hc1] at h4
  simpa using h4
theorem wpList_lookF1 {w : World} {ops : Array Oper} {rest : List Oper} {o : Oper} {a : Act} {Q : Exit → Act → World → Prop} (hg : o.guard = none) (m x : Operand) (hop : o.op = Op.lookup 118 m x true)
    (b n : Nat) {N : Nat} {qs : List (List Int)} {f : List Int → Nat} (hm : a.eval m = .map (some b)) (hown : Mf w b n N qs f) (l : List Int) (hl : l.length = N) (hx : a.eval x = .agg #[.bool (bF (at5 l) 0), .bool (bF (at5 l) 1), .bool (bF (at5 l) 2), .bool (bF (at5 l) 3), .bool (bF (at5 l) 4)]) (q : List Int) (hq : q ∈ qs) (ha : alB l q = true) (z : Nat) (hz : f q = z)
    (hK : wpList Try.prog ops Q rest (a.put o.dst (.tuple #[.int .i64 (z : Int), .bool true])) w) : wpList Try.prog ops Q (o :: rest) a w := by
  refine wpList_lookF hg m x hop b n hm hown l hl hx true (List.any_eq_true.2 ⟨q, hq, ha⟩) fun z' h => ?_
  rw [h.out q hq ha, hz]
  exact hK

end Go.Proofs.Ytehoagbpgahopaa
