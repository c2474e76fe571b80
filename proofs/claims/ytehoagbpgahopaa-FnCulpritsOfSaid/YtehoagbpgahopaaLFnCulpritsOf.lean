/- The walk of FnCulpritsOf: it returns true and writes nothing that was there. -/
import Derived.Test.YtehoagbpgahopaaRc
import Derived.Test.YtehoagbpgahopaaJu
import Derived.Test.YtehoagbpgahopaaJa
import Derived.Test.YtehoagbpgahopaaJc
import Derived.Test.YtehoagbpgahopaaVr
namespace Go.Proofs.Ytehoagbpgahopaa
open Go.RowKit

theorem riiBox {w : World} {lo hi c : Nat} {a : Option Addr} {p : List Int} (h : RI w lo hi a p) (hc : p.length ≤ c) (hlo : lo ≤ w.heap.size) (hhi : hi ≤ w.heap.size) : RII (w.alloc (.cells #[.slice a p.length c] 23)) lo (w.heap.size + 1) (some ⟨w.heap.size, 0, none⟩) [p] := by
  intro k hk
  obtain rfl : k = 0 := by simpa using hk
  exact ⟨w.heap.size, 0, a, c, p, rfl, hlo, by omega, rfl, (by have h1 := cell_one_new w (.slice a p.length c) 23 0 _ rfl; rw [addrAdd] at h1; exact h1), (h.below ((Below.refl w.heap.size w).alloc (Nat.le_refl _) _) hhi).wide (Nat.le_refl _) (by omega), hc⟩

theorem cu_ro {m : List Int} {s : List (List Int)} {f : List Bool} {t : Int} (hm : okM m = true) (hs : okS m s = true) {p : List Int} (hp : p ∈ cuL m s f t) : roL m s [p] = f := by
  have h := cuL_mem hp
  have hpo : okP m p = true := ((mem_patS hm).1 h.2.1).1
  have hb : okBn m [p] = true := by unfold okBn; simp [hpo]
  rw [ro_yes hm hs hb]; exact cu_res hp

set_option maxRecDepth 100000 in
set_option maxHeartbeats 2000000 in
theorem law_FnCulpritsOf {m0 : Nat} {a0 : Option Addr} {c0 : Nat} {w : World} (f0 : RB w w.heap.size a0 m0) (l0 : m0 ≤ c0) :
    Calls Try.prog 21 #[.slice a0 m0 c0] w (Tru w) := by
  by_cases hb : m0 ≤ 1048576
  case neg =>
    go_enter Try.func21, Try.ntmps21
    go_wp2
    go_ret
    exact ⟨rfl, Below.refl _ _⟩
  go_enter Try.func21, Try.ntmps21
  go_wp2_with fail
  refine (s_DrawCulpritsOf f0 l0 hb).mono ?_
  rintro e w1 ⟨a1, c1, m, a2, c2, s, a3, c3, f, t, rfl, ⟨hG, hS, hf, hfl, ht0, ht1⟩, B1⟩
  have z1 := B1.size
  have hm := hG.ri
  have hs := hS.ric
  have hl10 := hG.lp.1
  have hsl := hS.sq.1
  have HSR : Hid (∀ r ∈ s, r.length ≤ 12) := fun r h => (hS.sq.2 r h).1
  have HSG : Hid (∀ r ∈ s, r.length ≤ 9223372036854775807) := fun r h => by have := (hS.sq.2 r h).1; omega
  clear hG hS
  clear f0
  obtain ⟨L, hL⟩ : ∃ L, cuL m s f t = L := ⟨_, rfl⟩
  have HL := Lib.hid hL
  have HLN := @cuL_len m s f t
  have HGR := Lib.hid (@cuL_gr m s f t).2
  have HRW := Lib.hid (@cuL_row m s f t)
  rw [hL] at HLN HGR HRW
  have heqL : eqII L L = true := eqII_true.2 rfl
  clear hL
  cases hok : (okM m && okS m s)
  · skip
    have HV := Lib.hid hok; clear hok
    go_wp2_with fail
    refine (i_CulpritsOf hm (by omega) hs.rii (by omega) HSG.out hf (by omega) (by omega) (by omega) (by omega) (by omega) (by omega)).mono ?_
    rintro e w2 ⟨Aa, Ac, rfl, A, b2⟩
    have z2 := b2.size
    have hm := hm.below b2 (by omega)
    have hs := hs.below b2 (by omega)
    have hf := hf.below b2 (by omega)
    have B2 := B1.trans (b2.mono (by omega))
    clear b2 B1
    rw [HL.out] at A
    rw [HL.out]
    go_wp2_with fail
    refine (s_CulpritsOf hm (by omega) hs.rii (by omega) HSG.out hf (by omega) (by omega) (by omega) (by omega) (by omega) (by omega)).mono ?_
    rintro e w3 ⟨Sa, Sc, rfl, S, b3⟩
    have z3 := b3.size
    have hm := hm.below b3 (by omega)
    have hs := hs.below b3 (by omega)
    have hf := hf.below b3 (by omega)
    have A := A.below b3 (by omega)
    have B3 := B2.trans (b3.mono (by omega))
    clear b3 B2
    rw [HL.out] at S
    rw [HL.out]
    go_wp2_with fail
    refine (l_equalLists A.rii S.rii (by omega) (by omega) HGR.out HGR.out).mono ?_
    rintro e w4 ⟨rfl, d4⟩
    have b4 := Dr.below d4 w3.heap.size
    have z4 := Dr.le d4
    clear d4
    have hm := hm.below b4 (by omega)
    have hs := hs.below b4 (by omega)
    have hf := hf.below b4 (by omega)
    have A := A.below b4 (by omega)
    have S := S.below b4 (by omega)
    have B4 := B3.trans (b4.mono (by omega))
    clear b4 B3
    rw [heqL]
    clear S
    go_wp2_with fail
    refine (i_ValidSuite hm (by omega) hs.rii (by omega) HSG.out).mono ?_
    rintro e w5 ⟨rfl, d5⟩
    have b5 := Dr.below d5 w4.heap.size
    have z5 := Dr.le d5
    clear d5
    have hm := hm.below b5 (by omega)
    have hs := hs.below b5 (by omega)
    have hf := hf.below b5 (by omega)
    have A := A.below b5 (by omega)
    have B5 := B4.trans (b5.mono (by omega))
    clear b5 B4
    rw [HV.out]
    go_wp2_with fail
    refine (s_CulpritsOf hm (by omega) hs.rii (by omega) HSG.out hf (by omega) (by omega) (by omega) (by omega) (by omega) (by omega)).mono ?_
    rintro e w6 ⟨Sa, Sc, rfl, S, b6⟩
    have z6 := b6.size
    have hm := hm.below b6 (by omega)
    have hs := hs.below b6 (by omega)
    have hf := hf.below b6 (by omega)
    have A := A.below b6 (by omega)
    have B6 := B5.trans (b6.mono (by omega))
    clear b6 B5
    rw [HL.out] at S
    rw [HL.out]
    go_wp2_with fail
    refine (l_equalLists A.rii S.rii (by omega) (by omega) HGR.out HGR.out).mono ?_
    rintro e w7 ⟨rfl, d7⟩
    have b7 := Dr.below d7 w6.heap.size
    have z7 := Dr.le d7
    clear d7
    have hm := hm.below b7 (by omega)
    have hs := hs.below b7 (by omega)
    have hf := hf.below b7 (by omega)
    have A := A.below b7 (by omega)
    have S := S.below b7 (by omega)
    have B7 := B6.trans (b7.mono (by omega))
    clear b7 B6
    rw [heqL]
    go_wp2
    go_ret
    exact ⟨rfl, B7⟩
  have HV := Lib.hid hok
  rw [Bool.and_eq_true] at hok
  have HOK := Lib.hid hok.1; have HOS := Lib.hid hok.2
  clear hok
  have hm5 := okM_len HOK.out
  by_cases k1 : t < 0
  · skip
    go_wp2_with fail
    refine (i_CulpritsOf hm (by omega) hs.rii (by omega) HSG.out hf (by omega) (by omega) (by omega) (by omega) (by omega) (by omega)).mono ?_
    rintro e w2 ⟨Aa, Ac, rfl, A, b2⟩
    have z2 := b2.size
    have hm := hm.below b2 (by omega)
    have hs := hs.below b2 (by omega)
    have hf := hf.below b2 (by omega)
    have B2 := B1.trans (b2.mono (by omega))
    clear b2 B1
    rw [HL.out] at A
    rw [HL.out]
    go_wp2_with fail
    refine (s_CulpritsOf hm (by omega) hs.rii (by omega) HSG.out hf (by omega) (by omega) (by omega) (by omega) (by omega) (by omega)).mono ?_
    rintro e w3 ⟨Sa, Sc, rfl, S, b3⟩
    have z3 := b3.size
    have hm := hm.below b3 (by omega)
    have hs := hs.below b3 (by omega)
    have hf := hf.below b3 (by omega)
    have A := A.below b3 (by omega)
    have B3 := B2.trans (b3.mono (by omega))
    clear b3 B2
    rw [HL.out] at S
    rw [HL.out]
    go_wp2_with fail
    refine (l_equalLists A.rii S.rii (by omega) (by omega) HGR.out HGR.out).mono ?_
    rintro e w4 ⟨rfl, d4⟩
    have b4 := Dr.below d4 w3.heap.size
    have z4 := Dr.le d4
    clear d4
    have hm := hm.below b4 (by omega)
    have hs := hs.below b4 (by omega)
    have hf := hf.below b4 (by omega)
    have A := A.below b4 (by omega)
    have S := S.below b4 (by omega)
    have B4 := B3.trans (b4.mono (by omega))
    clear b4 B3
    rw [heqL]
    clear S
    go_wp2_with fail
    refine (i_ValidSuite hm (by omega) hs.rii (by omega) HSG.out).mono ?_
    rintro e w5 ⟨rfl, d5⟩
    have b5 := Dr.below d5 w4.heap.size
    have z5 := Dr.le d5
    clear d5
    have hm := hm.below b5 (by omega)
    have hs := hs.below b5 (by omega)
    have hf := hf.below b5 (by omega)
    have A := A.below b5 (by omega)
    have B5 := B4.trans (b5.mono (by omega))
    clear b5 B4
    rw [HV.out]
    go_wp2_with fail
    refine (s_CulpritsOf hm (by omega) hs.rii (by omega) HSG.out hf (by omega) (by omega) (by omega) (by omega) (by omega) (by omega)).mono ?_
    rintro e w6 ⟨Sa, Sc, rfl, S, b6⟩
    have z6 := b6.size
    have hm := hm.below b6 (by omega)
    have hs := hs.below b6 (by omega)
    have hf := hf.below b6 (by omega)
    have A := A.below b6 (by omega)
    have B6 := B5.trans (b6.mono (by omega))
    clear b6 B5
    rw [HL.out] at S
    rw [HL.out]
    go_wp2_with fail
    refine (l_equalLists A.rii S.rii (by omega) (by omega) HGR.out HGR.out).mono ?_
    rintro e w7 ⟨rfl, d7⟩
    have b7 := Dr.below d7 w6.heap.size
    have z7 := Dr.le d7
    clear d7
    have hm := hm.below b7 (by omega)
    have hs := hs.below b7 (by omega)
    have hf := hf.below b7 (by omega)
    have A := A.below b7 (by omega)
    have S := S.below b7 (by omega)
    have B7 := B6.trans (b7.mono (by omega))
    clear b7 B6
    rw [heqL]
    go_wp2
    go_ret
    exact ⟨rfl, B7⟩
  by_cases k2 : (m.length : Int) < t
  · skip
    go_wp2_with fail
    refine (i_CulpritsOf hm (by omega) hs.rii (by omega) HSG.out hf (by omega) (by omega) (by omega) (by omega) (by omega) (by omega)).mono ?_
    rintro e w2 ⟨Aa, Ac, rfl, A, b2⟩
    have z2 := b2.size
    have hm := hm.below b2 (by omega)
    have hs := hs.below b2 (by omega)
    have hf := hf.below b2 (by omega)
    have B2 := B1.trans (b2.mono (by omega))
    clear b2 B1
    rw [HL.out] at A
    rw [HL.out]
    go_wp2_with fail
    refine (s_CulpritsOf hm (by omega) hs.rii (by omega) HSG.out hf (by omega) (by omega) (by omega) (by omega) (by omega) (by omega)).mono ?_
    rintro e w3 ⟨Sa, Sc, rfl, S, b3⟩
    have z3 := b3.size
    have hm := hm.below b3 (by omega)
    have hs := hs.below b3 (by omega)
    have hf := hf.below b3 (by omega)
    have A := A.below b3 (by omega)
    have B3 := B2.trans (b3.mono (by omega))
    clear b3 B2
    rw [HL.out] at S
    rw [HL.out]
    go_wp2_with fail
    refine (l_equalLists A.rii S.rii (by omega) (by omega) HGR.out HGR.out).mono ?_
    rintro e w4 ⟨rfl, d4⟩
    have b4 := Dr.below d4 w3.heap.size
    have z4 := Dr.le d4
    clear d4
    have hm := hm.below b4 (by omega)
    have hs := hs.below b4 (by omega)
    have hf := hf.below b4 (by omega)
    have A := A.below b4 (by omega)
    have S := S.below b4 (by omega)
    have B4 := B3.trans (b4.mono (by omega))
    clear b4 B3
    rw [heqL]
    clear S
    go_wp2_with fail
    refine (i_ValidSuite hm (by omega) hs.rii (by omega) HSG.out).mono ?_
    rintro e w5 ⟨rfl, d5⟩
    have b5 := Dr.below d5 w4.heap.size
    have z5 := Dr.le d5
    clear d5
    have hm := hm.below b5 (by omega)
    have hs := hs.below b5 (by omega)
    have hf := hf.below b5 (by omega)
    have A := A.below b5 (by omega)
    have B5 := B4.trans (b5.mono (by omega))
    clear b5 B4
    rw [HV.out]
    go_wp2_with fail
    refine (s_CulpritsOf hm (by omega) hs.rii (by omega) HSG.out hf (by omega) (by omega) (by omega) (by omega) (by omega) (by omega)).mono ?_
    rintro e w6 ⟨Sa, Sc, rfl, S, b6⟩
    have z6 := b6.size
    have hm := hm.below b6 (by omega)
    have hs := hs.below b6 (by omega)
    have hf := hf.below b6 (by omega)
    have A := A.below b6 (by omega)
    have B6 := B5.trans (b6.mono (by omega))
    clear b6 B5
    rw [HL.out] at S
    rw [HL.out]
    go_wp2_with fail
    refine (l_equalLists A.rii S.rii (by omega) (by omega) HGR.out HGR.out).mono ?_
    rintro e w7 ⟨rfl, d7⟩
    have b7 := Dr.below d7 w6.heap.size
    have z7 := Dr.le d7
    clear d7
    have hm := hm.below b7 (by omega)
    have hs := hs.below b7 (by omega)
    have hf := hf.below b7 (by omega)
    have A := A.below b7 (by omega)
    have S := S.below b7 (by omega)
    have B7 := B6.trans (b7.mono (by omega))
    clear b7 B6
    rw [heqL]
    go_wp2
    go_ret
    exact ⟨rfl, B7⟩
  by_cases hle : f.length = s.length
  case neg =>
    have hne : ((f.length : Int) != (s.length : Int)) = true := by rw [bne_iff_ne]; omega
    go_wp2_with fail
    refine (i_CulpritsOf hm (by omega) hs.rii (by omega) HSG.out hf (by omega) (by omega) (by omega) (by omega) (by omega) (by omega)).mono ?_
    rintro e w2 ⟨Aa, Ac, rfl, A, b2⟩
    have z2 := b2.size
    have hm := hm.below b2 (by omega)
    have hs := hs.below b2 (by omega)
    have hf := hf.below b2 (by omega)
    have B2 := B1.trans (b2.mono (by omega))
    clear b2 B1
    rw [HL.out] at A
    rw [HL.out]
    go_wp2_with fail
    refine (s_CulpritsOf hm (by omega) hs.rii (by omega) HSG.out hf (by omega) (by omega) (by omega) (by omega) (by omega) (by omega)).mono ?_
    rintro e w3 ⟨Sa, Sc, rfl, S, b3⟩
    have z3 := b3.size
    have hm := hm.below b3 (by omega)
    have hs := hs.below b3 (by omega)
    have hf := hf.below b3 (by omega)
    have A := A.below b3 (by omega)
    have B3 := B2.trans (b3.mono (by omega))
    clear b3 B2
    rw [HL.out] at S
    rw [HL.out]
    go_wp2_with fail
    refine (l_equalLists A.rii S.rii (by omega) (by omega) HGR.out HGR.out).mono ?_
    rintro e w4 ⟨rfl, d4⟩
    have b4 := Dr.below d4 w3.heap.size
    have z4 := Dr.le d4
    clear d4
    have hm := hm.below b4 (by omega)
    have hs := hs.below b4 (by omega)
    have hf := hf.below b4 (by omega)
    have A := A.below b4 (by omega)
    have S := S.below b4 (by omega)
    have B4 := B3.trans (b4.mono (by omega))
    clear b4 B3
    rw [heqL]
    clear S
    go_wp2_with fail
    refine (i_ValidSuite hm (by omega) hs.rii (by omega) HSG.out).mono ?_
    rintro e w5 ⟨rfl, d5⟩
    have b5 := Dr.below d5 w4.heap.size
    have z5 := Dr.le d5
    clear d5
    have hm := hm.below b5 (by omega)
    have hs := hs.below b5 (by omega)
    have hf := hf.below b5 (by omega)
    have A := A.below b5 (by omega)
    have B5 := B4.trans (b5.mono (by omega))
    clear b5 B4
    rw [HV.out]
    go_wp2_with fail
    refine (s_CulpritsOf hm (by omega) hs.rii (by omega) HSG.out hf (by omega) (by omega) (by omega) (by omega) (by omega) (by omega)).mono ?_
    rintro e w6 ⟨Sa, Sc, rfl, S, b6⟩
    have z6 := b6.size
    have hm := hm.below b6 (by omega)
    have hs := hs.below b6 (by omega)
    have hf := hf.below b6 (by omega)
    have A := A.below b6 (by omega)
    have B6 := B5.trans (b6.mono (by omega))
    clear b6 B5
    rw [HL.out] at S
    rw [HL.out]
    go_wp2_with fail
    refine (l_equalLists A.rii S.rii (by omega) (by omega) HGR.out HGR.out).mono ?_
    rintro e w7 ⟨rfl, d7⟩
    have b7 := Dr.below d7 w6.heap.size
    have z7 := Dr.le d7
    clear d7
    have hm := hm.below b7 (by omega)
    have hs := hs.below b7 (by omega)
    have hf := hf.below b7 (by omega)
    have A := A.below b7 (by omega)
    have S := S.below b7 (by omega)
    have B7 := B6.trans (b7.mono (by omega))
    clear b7 B6
    rw [heqL]
    go_wp2
    go_ret
    exact ⟨rfl, B7⟩
  have hne : ((f.length : Int) != (s.length : Int)) = false := by rw [hle]; simp
  have HLE := Lib.hid hle
  have HJ : Hid (jdG m s f t = true) := by
    show _ = _
    unfold jdG okC
    rw [HOK.out, HOS.out, inR_true.2 (by omega)]; simp [hle]
  clear hle
  go_wp2_with fail
  refine (i_CulpritsOf hm (by omega) hs.rii (by omega) HSG.out hf (by omega) (by omega) (by omega) (by omega) (by omega) (by omega)).mono ?_
  rintro e w2 ⟨Aa, Ac, rfl, A, b2⟩
  have z2 := b2.size
  have hm := hm.below b2 (by omega)
  have hs := hs.below b2 (by omega)
  have hf := hf.below b2 (by omega)
  have B2 := B1.trans (b2.mono (by omega))
  clear b2 B1
  rw [HL.out] at A
  rw [HL.out]
  go_wp2_with fail
  refine (s_CulpritsOf hm (by omega) hs.rii (by omega) HSG.out hf (by omega) (by omega) (by omega) (by omega) (by omega) (by omega)).mono ?_
  rintro e w3 ⟨Sa, Sc, rfl, S, b3⟩
  have z3 := b3.size
  have hm := hm.below b3 (by omega)
  have hs := hs.below b3 (by omega)
  have hf := hf.below b3 (by omega)
  have A := A.below b3 (by omega)
  have B3 := B2.trans (b3.mono (by omega))
  clear b3 B2
  rw [HL.out] at S
  rw [HL.out]
  go_wp2_with fail
  refine (l_equalLists A.rii S.rii (by omega) (by omega) HGR.out HGR.out).mono ?_
  rintro e w4 ⟨rfl, d4⟩
  have b4 := Dr.below d4 w3.heap.size
  have z4 := Dr.le d4
  clear d4
  have hm := hm.below b4 (by omega)
  have hs := hs.below b4 (by omega)
  have hf := hf.below b4 (by omega)
  have A := A.below b4 (by omega)
  have S := S.below b4 (by omega)
  have B4 := B3.trans (b4.mono (by omega))
  clear b4 B3
  rw [heqL]
  clear S
  go_wp2_with fail
  refine (i_ValidSuite hm (by omega) hs.rii (by omega) HSG.out).mono ?_
  rintro e w5 ⟨rfl, d5⟩
  have b5 := Dr.below d5 w4.heap.size
  have z5 := Dr.le d5
  clear d5
  have hm := hm.below b5 (by omega)
  have hs := hs.below b5 (by omega)
  have hf := hf.below b5 (by omega)
  have A := A.below b5 (by omega)
  have B5 := B4.trans (b5.mono (by omega))
  clear b5 B4
  rw [HV.out]
  have HRO : Hid (∀ p ∈ L, roL m s [p] = f) := fun p hp => by rw [← HL.out] at hp; exact cu_ro HOK.out HOS.out hp
  have HCS : Hid (true ∈ f → ∀ p ∈ L, p ∈ suL m s f t) := fun h p hp => by rw [← HL.out] at hp; exact cu_sus h p hp
  have heqf : eqBo f f = true := eqBo_true.2 rfl
  have ha0 : Hid ((f.take 0).any id = false) := by show _ = _; simp
  clear heqL
  go_wp2
  go_loopw [8, 9] (fun b i wr => ∃ (k : Nat) (x : Bool), k ≤ f.length ∧ i = .int .i64 k ∧ b = .bool x ∧ Hid ((f.take k).any id = x) ∧ Below w5.heap.size w5 wr) (fun _ i _ => f.length - (intOf i).toNat)
  case atStart => exact ⟨0, false, Nat.zero_le _, rfl, rfl, ha0, Below.refl _ _⟩
  case round =>
    clear ha0
    obtain ⟨k, x, hk, rfl, rfl, HX, hd⟩ := hrel
    have hz := hd.size
    have hm := hm.below hd (by omega)
    have hs := hs.below hd (by omega)
    have hf := hf.below hd (by omega)
    have A := A.below hd (by omega)
    have BB := B5.trans (hd.mono (by omega))
    by_cases hlt : k < f.length
    · skip
      obtain ⟨b3, o3, z, ha3, _, hbh3, hcell3, hz3⟩ := hf.at hlt
      have hidx3 := idxBo ha3 hlt c3
      have HST : Hid ((f.take (k + 1)).any id = (x || z)) := by
        show _ = _
        rw [take_snoc hz3.out, List.any_append, HX.out]; simp
      clear ha3 hz3
      cases x
      · skip
        go_wp2
        go_roundw
        case rel => exact ⟨k + 1, z, by omega, by go_num, rfl, by show _ = _; rw [HST.out]; simp, hd⟩
        case measure => simp [intOf]; omega
      · skip
        go_wp2
        go_roundw
        case rel => exact ⟨k + 1, true, by omega, by go_num, rfl, by show _ = _; rw [HST.out]; simp, hd⟩
        case measure => simp [intOf]; omega
    · skip
      have HT : Hid (f.take k = f) := List.take_of_length_le (by omega)
      rw [HT.out] at HX
      obtain ⟨wo, hwo⟩ : ∃ y : World, y = wr := ⟨_, rfl⟩
      subst hwo
      clear hd
      go_wp2
      go_loopw [10] (fun i wr => ∃ k : Nat, k ≤ L.length ∧ i = .int .i64 k ∧ Below wo.heap.size wo wr) (fun i _ => L.length - (intOf i).toNat)
      case atStart => exact ⟨0, Nat.zero_le _, rfl, Below.refl _ _⟩
      case round =>
        obtain ⟨k, hk, rfl, hd⟩ := hrel
        have hz := hd.size
        have hm := hm.below hd (by omega)
        have hs := hs.below hd (by omega)
        have hf := hf.below hd (by omega)
        have A := A.below hd (by omega)
        have BB := BB.trans (hd.mono (by omega))
        by_cases hlt : k < L.length
        · skip
          obtain ⟨b1, o1, a5, c5, p, ha, _, hbh, hcell, hp, hx, hcp⟩ := A.rii.atc hlt
          have hidx := idxII ha hlt Ac
          have hpl : p.length ≤ 5 := by have := HRW.out p (List.mem_of_getElem? hx.out); omega
          have HRP := Lib.hid (HRO.out p (List.mem_of_getElem? hx.out))
          clear ha hx
          have HBX := Lib.hid (riiBox (lo := w.heap.size) (hp.wide (by omega) (Nat.le_refl _)) hcp (by omega) (by omega))
          have hbA := (Below.refl wr.heap.size wr).alloc (Nat.le_refl _) (.cells #[.slice a5 p.length c5] 23)
          have zA : wr.heap.size + 1 ≤ (wr.alloc (.cells #[.slice a5 p.length c5] 23)).heap.size ∧ (wr.alloc (.cells #[.slice a5 p.length c5] 23)).heap.size ≤ wr.heap.size + 1 := by simp
          have hmA := hm.below hbA (by omega)
          have hsA := hs.below hbA (by omega)
          have hfA := hf.below hbA (by omega)
          go_wp2_with fail
          refine (i_ResultsOf (b := [p]) hmA (by omega) hsA.rii (by omega) HSG.out HBX.out (by simp) (by intro r hr; simp at hr; subst hr; omega) (by omega) (by omega)).mono ?_
          rintro e v1 ⟨Fa, Fc, rfl, Rr, b1⟩
          rw [HRP.out] at Rr
          rw [HRP.out]
          have zz := b1.size
          have hfB := hfA.below b1 (by omega)
          have hd1 := hd.trans ((hbA.trans (b1.mono (by omega))).mono (by omega))
          clear hbA b1 hmA hsA hfA HBX BB
          go_wp2_with fail
          refine (l_equalBools Rr.ri hfB (by omega) (by omega)).mono ?_
          rintro e v2 ⟨rfl, d2⟩
          rw [heqf]
          have hd2 := hd1.trans (Dr.below d2 _)
          go_wp2
          go_roundw
          case rel => exact ⟨k + 1, by omega, by go_num, hd2⟩
          case measure => simp [intOf]; omega
        · skip
          cases x
          · skip
            go_wp2
            go_ret
            exact ⟨rfl, BB⟩
          · skip
            have htf : true ∈ f := by
              obtain ⟨y, hy, hy2⟩ := List.any_eq_true.1 HX.out
              simp at hy2; rw [hy2] at hy; exact hy
            have HAM : Hid (amgL L (suL m s f t) = true) := amgL_iff.2 fun r hr => HCS.out htf r hr
            have HSL := @suL_len m s f t
            have HSGR := Lib.hid (@suL_gr m s f t).2
            obtain ⟨U, hU⟩ : ∃ U, suL m s f t = U := ⟨_, rfl⟩
            rw [hU] at HAM HSL HSGR
            have HU := Lib.hid hU
            clear hU htf
            go_wp2_with fail
            refine (i_SuspectsOf hm (by omega) hs.rii (by omega) HSG.out hf (by omega) (by omega) (by omega) (by omega) (by omega) (by omega)).mono ?_
            rintro e v1 ⟨Ua, Uc, rfl, U1, b1⟩
            rw [HU.out] at U1
            rw [HU.out]
            have zz := b1.size
            have A := A.below b1 (by omega)
            have BB := BB.trans (b1.mono (by omega))
            go_wp2_with fail
            refine (l_among A.rii U1.rii (by omega) (by omega) HGR.out HSGR.out).mono ?_
            rintro e v2 ⟨rfl, d2⟩
            rw [HAM.out]
            go_wp2
            go_ret
            exact ⟨rfl, BB.trans (Dr.below d2 _)⟩

end Go.Proofs.Ytehoagbpgahopaa
