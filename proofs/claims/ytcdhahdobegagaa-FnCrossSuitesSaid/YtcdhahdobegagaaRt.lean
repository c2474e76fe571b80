/- Walks: rows appended to rows that lie elsewhere; what FnFreshOf draws. -/
import Derived.Test.YtcdhahdobegagaaRs
import Derived.Test.YtcdhahdobegagaaYk
namespace Go.Proofs.Ytcdhahdobegagaa
open Go.RowKit

theorem results_tmp4 {fn : Func} {t u v x : Tmp} (h : fn.results = #[.tmp t, .tmp u, .tmp v, .tmp x]) (tmps : Array Value) (P : Program) (w : World) :
    (results fn tmps).run P w = .ok (.tuple #[tmps.getD t undef, tmps.getD u undef, tmps.getD v undef, tmps.getD x undef]) w := by
  simp [results, h]

theorem run_appR_none {w : World} (ty : TypeId) (B lo hi : Nat) (v : Value) (mm : List (List Int)) (c : Nat) (hown : OwnRR w B lo hi v mm) : (Builtin.append_ #[24, 24] ty #[v, .slice none 0 c]).run Try.prog w = .ok v w := by
  obtain ⟨xs, h1, _⟩ := hown
  obtain ⟨i0, hi, hz0, hz1, hz2⟩ := info_parts infoI
  rcases h1.2 with ⟨rfl, h0⟩ | ⟨g, cap, cur, rfl, hb, hg, hn, hm, hs, ht⟩
  · simp [Builtin.append_, run_underlying undII, sizeOf, typeInfo, hi, Builtin.lenOf, Builtin.firstCells]
  · simp [Builtin.append_, run_underlying undII, sizeOf, typeInfo, hi, Builtin.lenOf, Builtin.firstCells, storeCells, Result.andThen, hn]
/-- append of rows, wherever they lie -/
theorem wpList_appRO {wr : World} {ops : Array Oper} {rest : List Oper} {o : Oper} {a : Act} {Q : Exit → Act → World → Prop} (hgd : o.guard = none) (s t : Operand)
    (ho : o.op = .call { callee := .builtin .append, args := #[s, t], argTypes := #[24, 24] }) (B lo hi : Nat) (v : Value) (mm mm2 : List (List Int)) (hs : a.eval s = v) (hown : OwnRR wr B lo hi v mm) (hB : B ≤ wr.heap.size) (hhi : hi ≤ wr.heap.size)
    (oa : Option Addr) (c : Nat) (hx : a.eval t = .slice oa mm2.length c) (hr : RII wr lo hi oa mm2)
    (hl : mm.length ≤ 1099511627776) (hl2 : mm2.length ≤ 1099511627776)
    (h : ∀ v' w', OwnRR w' B lo hi v' (mm ++ mm2) → Kp B lo hi wr w' → wpList Try.prog ops Q rest (a.put o.dst v') w') : wpList Try.prog ops Q (o :: rest) a wr := by
  cases oa with
  | some ad => exact wpList_appRN hgd s t ho B lo hi v mm mm2 hs hown hB hhi ad _ c rfl hx hr.addc hl hl2 fun v' w' h1 h2 _ => h v' w' h1 h2
  | none =>
    have hk0 : mm2 = [] := by
      cases mm2 with
      | nil => rfl
      | cons x k => obtain ⟨b, o, _, _, _, e, _⟩ := hr 0 (by simp); cases e
    subst hk0
    have hrn := run_appR_none o.type B lo hi v mm c hown
    exact Lib.wpList_append_run _ hgd s t 24 24 ho v (.slice none 0 c) hs hx v wr hrn (h v wr (by simpa using hown) (Kp.refl _ _ _ _))

/-- a list, a suite, a test and a number that a law has drawn -/
def DrF (w : World) (e : Ending) (w' : World) : Prop := ∃ (a1 : Option Addr) (c1 : Nat) (m : List Int) (a2 : Option Addr) (c2 : Nat) (s : List (List Int)) (a3 : Option Addr) (c3 : Nat) (x : List Int) (t : Int), e = .returned (.tuple #[.slice a1 m.length c1, .slice a2 s.length c2, .slice a3 x.length c3, .int .i64 t]) ∧ (Got w w' 10 a1 c1 m ∧ GotS w w' 12 a2 c2 s ∧ Got w w' 11 a3 c3 x ∧ -4 ≤ t ∧ t ≤ 6) ∧ Below w.heap.size w w'

set_option maxRecDepth 100000 in
set_option maxHeartbeats 2000000 in
theorem s_DrawFreshOf {n : Nat} {a : Option Addr} {c : Nat} {w : World} (hm : RB w w.heap.size a n) (hc : n ≤ c) (hl : n ≤ 1048576) :
    Calls Try.prog 37 #[.slice a n c] w (DrF w) := by
  go_enter Try.func37, Try.ntmps37
  go_wp2_with fail
  refine (s_newReader hm hc hl).mono ?_
  rintro e w1 ⟨rfl, hr1, hb1⟩
  have hlt := hr1.lt
  go_wp2_with fail
  refine (s_goodModel hr1 (by omega)).mono ?_
  rintro e w2 ⟨a2, c2, m2, rfl, ho2, hL2, hr2, hU2⟩
  go_wp2_with fail
  refine (s_bentModel hr2 (by omega) ho2 rfl hL2 (by omega) hlt hU2.size).mono ?_
  rintro e w3 ⟨a3, c3, m3, rfl, ho3, hL3, hr3, hU3⟩
  have hU := hU2.trans hU3
  have hcap := ho3.cap.2
  have hs3 := hU.size
  clear ho2 hL2 hr2 hU2 hU3 hr1
  go_wp2_with fail
  refine (s_someSuite hr3 ho3 rfl hlt hs3 hL3 (by omega) (by omega)).mono ?_
  rintro e w4 ⟨a4, c4, s, rfl, ho4, hS4, hr4, hm4, hU4⟩
  have hs4 := hU4.size
  obtain ⟨a5, c5, e5, hR⟩ := ho4.riic
  cases e5
  have hUU := hU.trans hU4
  clear ho3 hr3 hU hU4 ho4
  go_wp2_with fail
  refine (s_someTest hr4 hm4 (Nat.le_refl _) hlt hL3 (by omega)).mono ?_
  rintro e w5 ⟨a6, c6, p, rfl, ho5, hL5, hr5, hU5⟩
  have hs5 := hU5.size
  have hm5 := hm4.upB hU5 (Nat.le_refl _) (Nat.le_refl _) hlt
  have hR5 : RIIc w5 w3.heap.size w4.heap.size a4 c4 s := ⟨hR.rii.same fun k h1 h2 => hU5.block k h2 h2 (by omega), hR.cap⟩
  have hU6 := hUU.trans (hU5.less (show w1.heap.size ≤ w4.heap.size by omega))
  have hcap6 := ho5.cap.2
  obtain ⟨a7, c7, e7, hoi⟩ := ho5.slice
  cases e7
  have hri := hoi.ri
  clear hm4 hR hUU hU5 hr4 hoi ho5
  go_wp2_with fail
  refine (s_aStrength hr5 (by omega)).mono ?_
  rintro e w6 ⟨t, rfl, ht, hr6, hU7⟩
  have hs6 := hU7.size
  have hm6 := hm5.upB hU7 hs5 hs5 hlt
  have hri6 := hri.upB hU7 (Nat.le_refl _) (Nat.le_refl _) (by omega)
  have hR6 : RIIc w6 w3.heap.size w4.heap.size a4 c4 s := ⟨hR5.rii.same fun k h1 h2 => hU7.block k (by omega) (by omega) (by omega), hR5.cap⟩
  have hU8 := hU6.trans (hU7.less (show w1.heap.size ≤ w5.heap.size by omega))
  clear hm5 hR5 hU6 hU7 hr5 hri
  go_wp2
  (try simp only [Exit.inBlock, Exit.then])
  refine bodyPost_ret (results_tmp4 rfl _ _ _) rfl ?_
  exact ⟨_, _, m3, _, _, s, _, _, p, t, rfl, ⟨⟨hm6.wide (by omega) (by omega), hL3, hcap⟩, ⟨hR6.wide (by omega) (by omega), hS4⟩, ⟨hri6.wide (by omega) (by omega), hL5, hcap6⟩, ht⟩, hb1.trans (hU8.toBelow (by omega) (by omega))⟩

end Go.Proofs.Ytcdhahdobegagaa
