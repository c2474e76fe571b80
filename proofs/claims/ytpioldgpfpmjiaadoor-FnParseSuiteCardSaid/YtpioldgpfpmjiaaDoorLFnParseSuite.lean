/- The walk of FnParseSuite: it returns true and writes nothing that was there. -/
import Derived.Test.YtpioldgpfpmjiaaDoorRc
import Derived.Test.YtpioldgpfpmjiaaDoorKn
import Derived.Test.YtpioldgpfpmjiaaDoorKm
namespace Go.Proofs.YtpioldgpfpmjiaaDoor
open Go.RowKit

theorem OwnL.upBk {w w' : World} {b B : Nat} {v : Value} {l : List Int} (h : OwnL w B v l) (hu : UpB b w.heap.size w w') (hb : b < B) : OwnL w' B v l := h.same fun g h1 h2 => hu.block g h2 h2 (by omega)
theorem dg_rdK {c : UInt8} (h : -1 ≤ rdB c ∧ rdB c ≤ 2) : dg (rdB c) = c := by
  by_cases h0 : c = 46
  · rw [rdB_dot h0, h0]; rfl
  by_cases h1 : (c.toNat : Int) < 48 ∨ 57 < (c.toNat : Int)
  · rw [rdB_other h0 h1] at h; omega
  have h2 : 48 ≤ (c.toNat : Int) ∧ (c.toNat : Int) ≤ 57 := by omega
  rw [rdB_digit h0 h2.1 h2.2] at h ⊢
  have h3 : c.toNat = 48 ∨ c.toNat = 49 ∨ c.toNat = 50 := by omega
  rcases h3 with h3 | h3 | h3
  · rw [show c = 48 from UInt8.toNat_inj.1 (by rw [h3]; rfl)]; rfl
  · rw [show c = 49 from UInt8.toNat_inj.1 (by rw [h3]; rfl)]; rfl
  · rw [show c = 50 from UInt8.toNat_inj.1 (by rw [h3]; rfl)]; rfl
theorem tx_rdK {s : ByteArray} (h : ∀ x ∈ rdL s, -1 ≤ x ∧ x ≤ 2) : (rdL s).map dg = s.data.toList := by
  unfold rdL at h ⊢
  rw [List.map_map]
  conv => rhs; rw [← List.map_id s.data.toList]
  exact List.map_congr_left fun c hc => dg_rdK (h _ (List.mem_map_of_mem hc))
theorem spG_ne (c : UInt8) (xs acc : List UInt8) : spG c xs acc ≠ [] := by
  intro h
  have := congrArg List.length h
  rw [spG_len] at this
  simp at this
theorem join_consK (p : List UInt8) {r : List (List UInt8)} (h : r ≠ []) (c : UInt8) : Lib.join (p :: r) [c] = p ++ c :: Lib.join r [c] := by
  cases r with
  | nil => exact absurd rfl h
  | cons q r => simp [Lib.join, List.intercalate, List.intersperse]
theorem join_spG (c : UInt8) : ∀ (xs acc : List UInt8), Lib.join (spG c xs acc) [c] = acc ++ xs
  | [], acc => by rw [spG, Lib.join_one, List.append_nil]
  | x :: xs, acc => by
    by_cases h : x = c
    · subst h
      rw [spG_hit, join_consK acc (spG_ne _ _ _), join_spG x xs []]; rfl
    · rw [spG_miss h, join_spG c xs (acc ++ [x]), List.append_assoc]; rfl
theorem stT_psR {s : ByteArray} (h : ∀ r ∈ psR s, ∀ x ∈ r, -1 ≤ x ∧ x ≤ 2) : stT (psR s) = s := by
  by_cases h0 : s.size = 0
  · obtain rfl := size_eq0 h0; rfl
  rw [psR_cons h0] at h ⊢
  unfold stT
  have e : ((pcs 44 s).map rdL).map (fun p => p.map dg) = spG 44 s.data.toList [] := by
    rw [List.map_map]
    have e2 : (pcs 44 s).map ((fun p => p.map dg) ∘ rdL) = (pcs 44 s).map (·.data.toList) :=
      List.map_congr_left fun p hp => tx_rdK (h (rdL p) (List.mem_map_of_mem hp))
    rw [e2]
    unfold pcs
    rw [List.map_map]
    conv => rhs; rw [← List.map_id (spG 44 s.data.toList [])]
    exact List.map_congr_left fun _ _ => rfl
  rw [e, join_spG, List.nil_append]
theorem ps_back {m : List Int} {s : ByteArray} (h : psB m s = true) : (okM m && okS m (psL m s)) = true ∧ suS m (psL m s) = s := by
  have h2 := h
  unfold psB at h2
  rw [Bool.and_eq_true] at h2
  rw [(ps_yes h).1]
  refine ⟨by rw [h2.1, h2.2]; rfl, ?_⟩
  rw [su_yes h2.1 h2.2]
  exact stT_psR fun r hr x hx => by
    obtain ⟨k, hk⟩ := List.getElem?_of_mem hx
    exact (su_rows h2.1 h2.2 hr).2.2 k x hk
theorem strEqK (s : ByteArray) : (s.toList == s.toList) = true := by simp

set_option maxRecDepth 100000 in
set_option maxHeartbeats 4000000 in
theorem s_DrawParseSuite {n : Nat} {a : Option Addr} {c : Nat} {w : World} (hm : RB w w.heap.size a n) (hc : n ≤ c) (hl : n ≤ 1048576) :
    Calls Tryd.prog 19 #[.slice a n c] w (fun e w' => ∃ (a1 : Option Addr) (c1 : Nat) (m : List Int) (s : ByteArray), e = .returned (.tuple #[.slice a1 m.length c1, .string s]) ∧ (Got w w' 10 a1 c1 m ∧ s.size ≤ 200) ∧ Below w.heap.size w w') := by
  go_enter Tryd.func19, Tryd.ntmps19
  go_wp2_with fail
  refine (s_newReader hm hc hl).mono ?_
  rintro e w1 ⟨rfl, hr1, hb1⟩
  have hlt := hr1.lt
  go_wp2_with fail
  refine (s_goodModelJ hr1 (by omega)).mono ?_
  rintro e w2 ⟨a2, c2, m, rfl, ho2, hL2, hr2, hU2⟩
  have hs2 := hU2.size
  have hm5 := hL2.1
  have HL5 : Hid (LP 5 m) := hL2.lp (Nat.le_refl _)
  obtain ⟨_, _, e2, hoi2⟩ := ho2.slice
  cases e2
  go_wp2_with fail
  refine (s_aSuiteJ hr2 hoi2.ri (Nat.le_refl _) hlt hL2 (by omega)).mono ?_
  rintro e w3 ⟨a3, c3, p, rfl, ho3, ⟨hpl, hpb⟩, hr3, hU3⟩
  have hs3 := hU3.size
  obtain ⟨_, _, e3, hR3⟩ := ho3.riic
  cases e3
  have HPX : Hid (∀ r ∈ p, r.length ≤ 5 ∧ ∀ (k : Nat) (x : Int), r[k]? = some x → -1 ≤ x ∧ x ≤ 2) := fun r hr => ⟨(hpb r hr).1, fun k x hx => by have := (hpb r hr).2 x (List.mem_of_getElem? hx); omega⟩
  have HP5 : Hid (∀ r ∈ p, r.length ≤ 5) := fun r hr => (hpb r hr).1
  clear hpb hr2 hr1 hL2 ho3
  go_wp2_with fail
  refine (s_suiteText hR3.rii (by omega) HPX.out).mono ?_
  rintro e w4 ⟨rfl, d4⟩
  have d4 : Dr w3 w4 := d4
  have hb4 := Dr.below d4 w3.heap.size
  have hs4 := Dr.le d4
  have hr4 := hr3.below hb4 hr3.lt
  have hV4 : UpB w.heap.size w2.heap.size w2 w4 := hU3.below hb4 (by omega)
  obtain ⟨T, hT⟩ : ∃ T, stT p = T := ⟨_, rfl⟩
  have hTs : T.size ≤ 126 := by rw [← hT]; have := stT_size HP5.out; omega
  rw [hT]
  clear hT hb4 d4 hr3 hU3 hR3
  go_wp2_with fail
  refine (s_pick hr4 (by omega) (by omega) (by omega)).mono ?_
  rintro e w5 ⟨v, rfl, hv, hr5, hu5⟩
  have hV5 := hV4.upd hu5
  have hs5 := hu5.size
  have hv0 := hv.1
  clear hr4 hV4 hu5 hv
  by_cases e0 : v = 0
  case neg =>
    have hvne : (v == 0) = false := by rw [beq_eq_false_iff_ne]; exact e0
    go_wp2_with fail
    refine (s_bentModel hr5 (by omega) (ho2.upBk hV5 hlt) rfl HL5.out (by omega) hlt (by omega)).mono ?_
    rintro e w9 ⟨a9, c9, m9, rfl, ho9, hL9, hr9, hU9⟩
    have hs9 := hU9.size
    have hcap9 := ho9.cap.2
    obtain ⟨_, _, e9, hoi9⟩ := ho9.slice
    cases e9
    have hUe := (hU2.trans (hV5.less (by omega))).trans (hU9.less (by omega))
    go_wp2
    go_ret2
    exact ⟨_, _, m9, T, rfl, ⟨⟨hoi9.ri.wide (by omega) (Nat.le_refl _), hL9, hcap9⟩, by omega⟩, hb1.trans (hUe.toBelow (by omega) (by omega))⟩
  subst e0
  go_wp2_with fail
  refine (s_mutate hr5 (by omega) (by omega)).mono ?_
  rintro e w6 ⟨T6, rfl, hT6, hr6, hU6⟩
  have hV6 := hV5.trans (hU6.less (by omega))
  have hs6 := hU6.size
  clear hr5 hV5 hU6
  go_wp2_with fail
  refine (s_bentModel hr6 (by omega) (ho2.upBk hV6 hlt) rfl HL5.out (by omega) hlt (by omega)).mono ?_
  rintro e w9 ⟨a9, c9, m9, rfl, ho9, hL9, hr9, hU9⟩
  have hs9 := hU9.size
  have hcap9 := ho9.cap.2
  obtain ⟨_, _, e9, hoi9⟩ := ho9.slice
  cases e9
  have hUe := (hU2.trans (hV6.less (by omega))).trans (hU9.less (by omega))
  go_wp2
  go_ret2
  exact ⟨_, _, m9, T6, rfl, ⟨⟨hoi9.ri.wide (by omega) (Nat.le_refl _), hL9, hcap9⟩, by omega⟩, hb1.trans (hUe.toBelow (by omega) (by omega))⟩

set_option maxRecDepth 100000 in
set_option maxHeartbeats 4000000 in
theorem law_FnParseSuite {m0 : Nat} {a0 : Option Addr} {c0 : Nat} {w : World} (f0 : RB w w.heap.size a0 m0) (l0 : m0 ≤ c0) :
    Calls Tryd.prog 5 #[.slice a0 m0 c0] w (Tru w) := by
  by_cases hb : m0 ≤ 1048576
  case neg =>
    go_enter Tryd.func5, Tryd.ntmps5
    go_wp2
    go_ret
    exact ⟨rfl, Below.refl _ _⟩
  go_enter Tryd.func5, Tryd.ntmps5
  go_wp2_with fail
  refine (s_DrawParseSuite f0 l0 hb).mono ?_
  rintro e w1 ⟨a1, c1, m, s, rfl, ⟨hG, hsz⟩, B1⟩
  have z1 := B1.size
  have hm := hG.ri
  have hl10 := hG.lp.1
  clear hG f0
  have HBK := Lib.hid (@ps_back m s)
  obtain ⟨L, hL⟩ : ∃ L, psL m s = L := ⟨_, rfl⟩
  obtain ⟨b, hB⟩ : ∃ b, psB m s = b := ⟨_, rfl⟩
  have HL := Lib.hid hL
  have HB := Lib.hid hB
  have HLN := @psL_len m s
  have HGR := Lib.hid (@psL_gr m s).2
  rw [hL] at HLN HGR HBK
  rw [hB] at HBK
  have heqL : eqII L L = true := eqII_true.2 rfl
  clear hL hB
  go_wp2_with fail
  refine (i_ParseSuite hm (by omega) (by omega) (by omega)).mono ?_
  rintro e w2 ⟨Aa, Ac, rfl, A, b2⟩
  have z2 := b2.size
  have hm := hm.below b2 (by omega)
  have B2 := B1.trans (b2.mono (by omega))
  clear b2 B1
  rw [HL.out] at A
  rw [HL.out, HB.out]
  go_wp2_with fail
  refine (s_ParseSuite hm (by omega) (by omega) (by omega)).mono ?_
  rintro e w3 ⟨Sa, Sc, rfl, S, b3⟩
  have z3 := b3.size
  have hm := hm.below b3 (by omega)
  have A := A.below b3 (by omega)
  have B3 := B2.trans (b3.mono (by omega))
  clear b3 B2
  rw [HL.out] at S
  rw [HL.out, HB.out]
  cases b
  · skip
    go_wp2_with fail
    refine (l_equalLists A.rii S.rii (by omega) (by omega) HGR.out HGR.out).mono ?_
    rintro e w4 ⟨rfl, d4⟩
    have b4 := Dr.below d4 w3.heap.size
    have z4 := Dr.le d4
    clear d4
    have A := A.below b4 (by omega)
    have S := S.below b4 (by omega)
    have B4 := B3.trans (b4.mono (by omega))
    clear b4 B3
    rw [heqL]
    go_wp2_with fail
    refine (l_equalLists A.rii S.rii (by omega) (by omega) HGR.out HGR.out).mono ?_
    rintro e w5 ⟨rfl, d5⟩
    rw [heqL]
    go_wp2
    go_ret
    exact ⟨rfl, B4.trans (Dr.below d5 _)⟩
  · skip
    obtain ⟨hv, hsu⟩ := HBK.out rfl
    have HV := Lib.hid hv; have HSU := Lib.hid hsu
    have hst := strEqK s
    have HG9 : Hid (∀ r ∈ L, r.length ≤ 9223372036854775807) := fun r h => by have := HGR.out r h; omega
    clear hv hsu
    go_wp2_with fail
    refine (l_equalLists A.rii S.rii (by omega) (by omega) HGR.out HGR.out).mono ?_
    rintro e w4 ⟨rfl, d4⟩
    have b4 := Dr.below d4 w3.heap.size
    have z4 := Dr.le d4
    clear d4
    have hm := hm.below b4 (by omega)
    have A := A.below b4 (by omega)
    have B4 := B3.trans (b4.mono (by omega))
    clear b4 B3 S
    rw [heqL]
    go_wp2_with fail
    refine (i_SuiteText hm (by omega) A.rii (by omega) HG9.out (by omega) (by omega)).mono ?_
    rintro e w5 ⟨rfl, b5⟩
    rw [HSU.out]
    have z5 := b5.size
    have hm := hm.below b5 (by omega)
    have A := A.below b5 (by omega)
    have B5 := B4.trans (b5.mono (by omega))
    clear b5 B4
    go_wp2_with fail
    refine (i_ValidSuite hm (by omega) A.rii (by omega) HG9.out).mono ?_
    rintro e w6 ⟨rfl, d6⟩
    rw [HV.out]
    go_wp2
    go_ret
    exact ⟨rfl, B5.trans (Dr.below d6 _)⟩

end Go.Proofs.YtpioldgpfpmjiaaDoor
