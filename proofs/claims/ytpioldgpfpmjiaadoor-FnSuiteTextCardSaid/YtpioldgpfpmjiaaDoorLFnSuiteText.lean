/- The walk of FnSuiteText: it returns true and writes nothing that was there. -/
import Derived.Test.YtpioldgpfpmjiaaDoorRo
import Derived.Test.YtpioldgpfpmjiaaDoorKm
namespace Go.Proofs.YtpioldgpfpmjiaaDoor
open Go.RowKit

theorem dg_ne (x : Int) : dg x ≠ 44 := by
  unfold dg
  split
  · decide
  · split
    · decide
    · split <;> decide
theorem rd_txK {p : List Int} (h : ∀ x ∈ p, -1 ≤ x ∧ x ≤ 2) : rdL (txS p) = p := by
  have e : ∀ x ∈ p, rdB (dg x) = x := by
    intro x hx
    have := h x hx
    obtain rfl | rfl | rfl | rfl : x = -1 ∨ x = 0 ∨ x = 1 ∨ x = 2 := by omega
    all_goals rfl
  unfold rdL txS
  simp only [List.map_map]
  conv => rhs; rw [← List.map_id p]
  exact List.map_congr_left fun x hx => e x hx
theorem spG_text : ∀ (q rest acc : List UInt8), 44 ∉ q → spG 44 (q ++ rest) acc = spG 44 rest (acc ++ q)
  | [], rest, acc, _ => by simp
  | x :: q, rest, acc, h => by
    have h1 : x ≠ 44 := fun e => h (by simp [e])
    rw [List.cons_append, spG_miss h1, spG_text q rest (acc ++ [x]) (fun e => h (by simp [e])), List.append_assoc]; rfl
theorem join_two (p q : List UInt8) (r : List (List UInt8)) : Lib.join (p :: q :: r) [44] = p ++ 44 :: Lib.join (q :: r) [44] := by
  simp [Lib.join, List.intercalate, List.intersperse]
theorem spG_join : ∀ (ps : List (List UInt8)), ps ≠ [] → (∀ p ∈ ps, (44 : UInt8) ∉ p) → spG 44 (Lib.join ps [44]) [] = ps
  | [], h, _ => absurd rfl h
  | [p], _, h => by
    rw [Lib.join_one]
    have h1 := spG_text p [] [] (h p (by simp))
    rw [List.append_nil, List.nil_append] at h1
    rw [h1]; rfl
  | p :: q :: r, _, h => by
    rw [join_two, spG_text p _ [] (h p (by simp)), spG_hit, List.nil_append, spG_join (q :: r) (by simp) (fun x hx => h x (by simp [hx]))]
theorem pcs_stT {ps : List (List Int)} (h0 : ps ≠ []) : pcs 44 (stT ps) = ps.map txS := by
  have h1 := spG_join (ps.map fun p => p.map dg) (by simpa using h0) (fun p hp hx => by
    obtain ⟨q, _, rfl⟩ := List.mem_map.1 hp
    obtain ⟨x, _, hx⟩ := List.mem_map.1 hx
    exact dg_ne x hx)
  unfold pcs
  have e : (stT ps).data.toList = Lib.join (ps.map fun p => p.map dg) [44] := by unfold stT; simp
  rw [e, h1, List.map_map]
  rfl
theorem psR_stT {ps : List (List Int)} (hr : ∀ p ∈ ps, p ≠ [] ∧ ∀ x ∈ p, -1 ≤ x ∧ x ≤ 2) : psR (stT ps) = ps := by
  by_cases h0 : ps = []
  · subst h0; rfl
  have hp := pcs_stT h0
  have hsz : (stT ps).size ≠ 0 := by
    intro h
    have e := size_eq0 h
    rw [e] at hp
    have hp2 : [(⟨#[]⟩ : ByteArray)] = ps.map txS := hp
    obtain ⟨p, r, rfl⟩ : ∃ p r, ps = p :: r := by cases ps with | nil => exact absurd rfl h0 | cons p r => exact ⟨p, r, rfl⟩
    rw [List.map_cons, List.cons.injEq] at hp2
    have h2 := congrArg ByteArray.size hp2.1
    rw [txS_size] at h2
    exact (hr p (by simp)).1 (List.eq_nil_of_length_eq_zero h2.symm)
  rw [psR_cons hsz, hp, List.map_map]
  conv => rhs; rw [← List.map_id ps]
  exact List.map_congr_left fun p hp => rd_txK (hr p hp).2
theorem su_back {m : List Int} {s : List (List Int)} (h : (okM m && okS m s) = true) : psB m (suS m s) = true ∧ psL m (suS m s) = s ∧ (suS m s).size ≤ 200 := by
  rw [Bool.and_eq_true] at h
  have hR : psR (stT s) = s := psR_stT fun p hp => by
    have h1 := su_rows h.1 h.2 hp
    have h2 := okW_len (okS_all h.2 hp)
    have h3 := okM_len h.1
    refine ⟨by intro e; rw [e] at h2; simp at h2; omega, fun x hx => ?_⟩
    obtain ⟨k, hk⟩ := List.getElem?_of_mem hx
    exact h1.2.2 k x hk
  rw [su_yes h.1 h.2]
  have hb : psB m (stT s) = true := by unfold psB; rw [hR, h.1, h.2]; rfl
  have hz := stT_size (ps := s) (fun p hp => (su_rows h.1 h.2 hp).2.1)
  have hl := okS_len h.2
  exact ⟨hb, by rw [(ps_yes hb).1, hR], by omega⟩
theorem strEq (s : ByteArray) : (s.toList != s.toList) = false ∧ (s.toList == s.toList) = true := ⟨by simp, by simp⟩

set_option maxRecDepth 100000 in
set_option maxHeartbeats 2000000 in
theorem s_DrawSuiteText {n : Nat} {a : Option Addr} {c : Nat} {w : World} (hm : RB w w.heap.size a n) (hc : n ≤ c) (hl : n ≤ 1048576) :
    Calls Tryd.prog 6 #[.slice a n c] w (fun e w' => ∃ (a1 : Option Addr) (c1 : Nat) (m : List Int) (a2 : Option Addr) (c2 : Nat) (s : List (List Int)), e = .returned (.tuple #[.slice a1 m.length c1, .slice a2 s.length c2]) ∧ (Got w w' 10 a1 c1 m ∧ GotS w w' 12 a2 c2 s) ∧ Below w.heap.size w w') := by
  go_enter Tryd.func6, Tryd.ntmps6
  go_wp2_with fail
  refine (s_DrawValidSuite hm hc hl).mono ?_
  rintro e w1 ⟨a1, c1, m, a2, c2, s, rfl, h⟩
  go_wp2
  go_ret2
  exact ⟨_, _, m, _, _, s, rfl, h⟩

set_option maxRecDepth 100000 in
set_option maxHeartbeats 4000000 in
theorem law_FnSuiteText {m0 : Nat} {a0 : Option Addr} {c0 : Nat} {w : World} (f0 : RB w w.heap.size a0 m0) (l0 : m0 ≤ c0) :
    Calls Tryd.prog 3 #[.slice a0 m0 c0] w (Tru w) := by
  by_cases hb : m0 ≤ 1048576
  case neg =>
    go_enter Tryd.func3, Tryd.ntmps3
    go_wp2
    go_ret
    exact ⟨rfl, Below.refl _ _⟩
  go_enter Tryd.func3, Tryd.ntmps3
  go_wp2_with fail
  refine (s_DrawSuiteText f0 l0 hb).mono ?_
  rintro e w1 ⟨a1, c1, m, a2, c2, s, rfl, ⟨hG, hS⟩, B1⟩
  have z1 := B1.size
  have hm := hG.ri
  have hs := hS.ric
  have hl10 := hG.lp.1
  have hsl := hS.sq.1
  have HSG : Hid (∀ r ∈ s, r.length ≤ 9223372036854775807) := fun r h => by have := (hS.sq.2 r h).1; omega
  have HSG4 : Hid (∀ r ∈ s, r.length ≤ 4611686018427387904) := fun r h => by have := (hS.sq.2 r h).1; omega
  clear hG hS
  clear f0
  have HBK := Lib.hid (@su_back m s)
  obtain ⟨x, hx⟩ : ∃ x, suS m s = x := ⟨_, rfl⟩
  rw [hx] at HBK
  have HX := Lib.hid hx
  have hx1 := strEq x
  have hx2 := hx1.1; have hx3 := hx1.2
  clear hx hx1
  go_wp2_with fail
  refine (i_SuiteText hm (by omega) hs.rii (by omega) HSG.out (by omega) (by omega)).mono ?_
  rintro e w2 ⟨rfl, b2⟩
  rw [HX.out]
  have z2 := b2.size
  have hm := hm.below b2 (by omega)
  have hs := hs.below b2 (by omega)
  have B2 := B1.trans (b2.mono (by omega))
  clear b2 B1
  go_wp2_with fail
  refine (s_SuiteText hm (by omega) hs.rii (by omega) HSG.out).mono ?_
  rintro e w3 ⟨rfl, d3⟩
  rw [HX.out]
  have b3 := Dr.below d3 w2.heap.size
  have z3 := Dr.le d3
  clear d3
  have hm := hm.below b3 (by omega)
  have hs := hs.below b3 (by omega)
  have B3 := B2.trans (b3.mono (by omega))
  clear b3 B2
  cases hok : (okM m && okS m s)
  · have HV := Lib.hid hok; clear hok
    go_wp2_with fail
    refine (i_ValidSuite hm (by omega) hs.rii (by omega) HSG.out).mono ?_
    rintro e w4 ⟨rfl, d4⟩
    rw [HV.out]
    have b4 := Dr.below d4 w3.heap.size
    have z4 := Dr.le d4
    clear d4
    have hm := hm.below b4 (by omega)
    have hs := hs.below b4 (by omega)
    have B4 := B3.trans (b4.mono (by omega))
    clear b4 B3
    go_wp2_with fail
    refine (s_SuiteText hm (by omega) hs.rii (by omega) HSG.out).mono ?_
    rintro e w5 ⟨rfl, d5⟩
    rw [HX.out]
    go_wp2
    go_ret
    exact ⟨rfl, B4.trans (Dr.below d5 _)⟩
  · have HV := Lib.hid hok
    obtain ⟨hpb, hpl, hxs⟩ := HBK.out hok
    have HPB := Lib.hid hpb; have HPL := Lib.hid hpl
    have hes : eqII s s = true := eqII_true.2 rfl
    clear hok hpb hpl
    go_wp2_with fail
    refine (i_ValidSuite hm (by omega) hs.rii (by omega) HSG.out).mono ?_
    rintro e w4 ⟨rfl, d4⟩
    rw [HV.out]
    have b4 := Dr.below d4 w3.heap.size
    have z4 := Dr.le d4
    clear d4
    have hm := hm.below b4 (by omega)
    have hs := hs.below b4 (by omega)
    have B4 := B3.trans (b4.mono (by omega))
    clear b4 B3
    go_wp2_with fail
    refine (i_ParseSuite hm (by omega) (by omega) (by omega)).mono ?_
    rintro e w5 ⟨Pa, Pc, rfl, P, b5⟩
    rw [HPL.out] at P
    rw [HPL.out, HPB.out]
    have z5 := b5.size
    have hs := hs.below b5 (by omega)
    have B5 := B4.trans (b5.mono (by omega))
    clear b5 B4
    go_wp2_with fail
    refine (l_equalLists P.rii hs.rii (by omega) (by omega) HSG4.out HSG4.out).mono ?_
    rintro e w6 ⟨rfl, d6⟩
    rw [hes]
    go_wp2
    go_ret
    exact ⟨rfl, B5.trans (Dr.below d6 _)⟩

end Go.Proofs.YtpioldgpfpmjiaaDoor
