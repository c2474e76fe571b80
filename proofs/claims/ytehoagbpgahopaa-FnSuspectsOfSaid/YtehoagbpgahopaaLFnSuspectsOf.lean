/- The walk of FnSuspectsOf: it returns true and writes nothing that was there. -/
import Derived.Test.YtehoagbpgahopaaRc
import Derived.Test.YtehoagbpgahopaaJu
import Derived.Test.YtehoagbpgahopaaJa
import Derived.Test.YtehoagbpgahopaaJc
import Derived.Test.YtehoagbpgahopaaWg
import Derived.Test.YtehoagbpgahopaaTg
namespace Go.Proofs.Ytehoagbpgahopaa
open Go.RowKit

theorem i_MatchesB' {m p t : List Int} {a a' a'' : Option Addr} {c c' c'' lo hi lo' hi' lo'' hi'' : Nat} {w w' : World} {x : Bool} (hb : Below w.heap.size w w') (hm : RI w lo hi a m) (hlm : m.length ≤ 9223372036854775807) (hp : RI w lo' hi' a' p) (hlp : p.length ≤ 9223372036854775807) (ht : RI w lo'' hi'' a'' t) (hlt : t.length ≤ 9223372036854775807)
    (h1 : hi ≤ w.heap.size) (h2 : hi' ≤ w.heap.size) (h3 : hi'' ≤ w.heap.size) (hx : (okM m && okP m p && okT m t && mB p t) = x) :
    Calls Try.prog 57 #[.slice a m.length c, .slice a' p.length c', .slice a'' t.length c''] w' (fun e v => e = .returned (.bool x) ∧ Below w.heap.size w v) := by
  refine (i_Matches (hm.below hb h1) hlm (hp.below hb h2) hlp (ht.below hb h3) hlt (Nat.le_trans h2 hb.size) (Nat.le_trans h3 hb.size)).mono ?_
  rintro e v ⟨rfl, hv⟩
  exact ⟨by rw [hx], hb.trans (hv.mono hb.size)⟩

def cntB (p : List Int) (l : List (List Int)) : Nat := l.countP fun x => mB p x
theorem cntB_snoc {p x : List Int} {s : List (List Int)} {k : Nat} (hx : s[k]? = some x) : cntB p (s.take (k + 1)) = cntB p (s.take k) + if mB p x then 1 else 0 := by
  unfold cntB; rw [take_snoc hx, List.countP_append]; simp
theorem cntB_le (p : List Int) (l : List (List Int)) : cntB p l ≤ l.length := List.countP_le_length

set_option maxRecDepth 100000 in
set_option maxHeartbeats 2000000 in
theorem law_FnSuspectsOf {m0 : Nat} {a0 : Option Addr} {c0 : Nat} {w : World} (f0 : RB w w.heap.size a0 m0) (l0 : m0 ≤ c0) :
    Calls Try.prog 19 #[.slice a0 m0 c0] w (Tru w) := by
  by_cases hb : m0 ≤ 1048576
  case neg =>
    go_enter Try.func19, Try.ntmps19
    go_wp2
    go_ret
    exact ⟨rfl, Below.refl _ _⟩
  go_enter Try.func19, Try.ntmps19
  go_wp2_with fail
  refine (s_DrawSuspectsOf f0 l0 hb).mono ?_
  rintro e w1 ⟨a1, c1, m, a2, c2, s, a3, c3, f, t, rfl, ⟨hG, hS, hf, hfl, ht0, ht1⟩, B1⟩
  have z1 := B1.size
  have hm := hG.ri
  have hs := hS.ric
  have hl10 := hG.lp.1
  have hsl := hS.sq.1
  have HSR : Hid (∀ r ∈ s, r.length ≤ 12) := fun r h => (hS.sq.2 r h).1
  have HSG : Hid (∀ r ∈ s, r.length ≤ 9223372036854775807) := fun r h => by have := (hS.sq.2 r h).1; omega
  clear hG hS
  clear f0
  obtain ⟨L, hL⟩ : ∃ L, suL m s f t = L := ⟨_, rfl⟩
  have HL := Lib.hid hL
  have HLN := @suL_len m s f t
  have HGR := Lib.hid (@suL_gr m s f t).2
  have HRW := Lib.hid (@suL_row m s f t)
  rw [hL] at HLN HGR HRW
  have heqL : eqII L L = true := eqII_true.2 rfl
  clear hL
  cases hok : (okM m && okS m s)
  · skip
    have HV := Lib.hid hok; clear hok
    go_wp2_with fail
    refine (i_SuspectsOf hm (by omega) hs.rii (by omega) HSG.out hf (by omega) (by omega) (by omega) (by omega) (by omega) (by omega)).mono ?_
    rintro e w2 ⟨Aa, Ac, rfl, A, b2⟩
    have z2 := b2.size
    have hm := hm.below b2 (by omega)
    have hs := hs.below b2 (by omega)
    have hf := hf.below b2 (by omega)
    have B2 := B1.trans (b2.mono (by omega))
    clear b2 B1
    rw [HL.out] at A
    rw [HL.out]
    go_wp2_with fail
    refine (s_SuspectsOf hm (by omega) hs.rii (by omega) HSG.out hf (by omega) (by omega) (by omega) (by omega) (by omega) (by omega)).mono ?_
    rintro e w3 ⟨Sa, Sc, rfl, S, b3⟩
    have z3 := b3.size
    have hm := hm.below b3 (by omega)
    have hs := hs.below b3 (by omega)
    have hf := hf.below b3 (by omega)
    have A := A.below b3 (by omega)
    have B3 := B2.trans (b3.mono (by omega))
    clear b3 B2
    rw [HL.out] at S
    rw [HL.out]
    go_wp2_with fail
    refine (l_equalLists A.rii S.rii (by omega) (by omega) HGR.out HGR.out).mono ?_
    rintro e w4 ⟨rfl, d4⟩
    have b4 := Dr.below d4 w3.heap.size
    have z4 := Dr.le d4
    clear d4
    have hm := hm.below b4 (by omega)
    have hs := hs.below b4 (by omega)
    have hf := hf.below b4 (by omega)
    have A := A.below b4 (by omega)
    have S := S.below b4 (by omega)
    have B4 := B3.trans (b4.mono (by omega))
    clear b4 B3
    rw [heqL]
    clear S
    go_wp2_with fail
    refine (i_ValidSuite hm (by omega) hs.rii (by omega) HSG.out).mono ?_
    rintro e w5 ⟨rfl, d5⟩
    have b5 := Dr.below d5 w4.heap.size
    have z5 := Dr.le d5
    clear d5
    have hm := hm.below b5 (by omega)
    have hs := hs.below b5 (by omega)
    have hf := hf.below b5 (by omega)
    have A := A.below b5 (by omega)
    have B5 := B4.trans (b5.mono (by omega))
    clear b5 B4
    rw [HV.out]
    go_wp2_with fail
    refine (s_SuspectsOf hm (by omega) hs.rii (by omega) HSG.out hf (by omega) (by omega) (by omega) (by omega) (by omega) (by omega)).mono ?_
    rintro e w6 ⟨Sa, Sc, rfl, S, b6⟩
    have z6 := b6.size
    have hm := hm.below b6 (by omega)
    have hs := hs.below b6 (by omega)
    have hf := hf.below b6 (by omega)
    have A := A.below b6 (by omega)
    have B6 := B5.trans (b6.mono (by omega))
    clear b6 B5
    rw [HL.out] at S
    rw [HL.out]
    go_wp2_with fail
    refine (l_equalLists A.rii S.rii (by omega) (by omega) HGR.out HGR.out).mono ?_
    rintro e w7 ⟨rfl, d7⟩
    have b7 := Dr.below d7 w6.heap.size
    have z7 := Dr.le d7
    clear d7
    have hm := hm.below b7 (by omega)
    have hs := hs.below b7 (by omega)
    have hf := hf.below b7 (by omega)
    have A := A.below b7 (by omega)
    have S := S.below b7 (by omega)
    have B7 := B6.trans (b7.mono (by omega))
    clear b7 B6
    rw [heqL]
    go_wp2
    go_ret
    exact ⟨rfl, B7⟩
  have HV := Lib.hid hok
  rw [Bool.and_eq_true] at hok
  have HOK := Lib.hid hok.1; have HOS := Lib.hid hok.2
  clear hok
  have hm5 := okM_len HOK.out
  by_cases k1 : t < 0
  · skip
    go_wp2_with fail
    refine (i_SuspectsOf hm (by omega) hs.rii (by omega) HSG.out hf (by omega) (by omega) (by omega) (by omega) (by omega) (by omega)).mono ?_
    rintro e w2 ⟨Aa, Ac, rfl, A, b2⟩
    have z2 := b2.size
    have hm := hm.below b2 (by omega)
    have hs := hs.below b2 (by omega)
    have hf := hf.below b2 (by omega)
    have B2 := B1.trans (b2.mono (by omega))
    clear b2 B1
    rw [HL.out] at A
    rw [HL.out]
    go_wp2_with fail
    refine (s_SuspectsOf hm (by omega) hs.rii (by omega) HSG.out hf (by omega) (by omega) (by omega) (by omega) (by omega) (by omega)).mono ?_
    rintro e w3 ⟨Sa, Sc, rfl, S, b3⟩
    have z3 := b3.size
    have hm := hm.below b3 (by omega)
    have hs := hs.below b3 (by omega)
    have hf := hf.below b3 (by omega)
    have A := A.below b3 (by omega)
    have B3 := B2.trans (b3.mono (by omega))
    clear b3 B2
    rw [HL.out] at S
    rw [HL.out]
    go_wp2_with fail
    refine (l_equalLists A.rii S.rii (by omega) (by omega) HGR.out HGR.out).mono ?_
    rintro e w4 ⟨rfl, d4⟩
    have b4 := Dr.below d4 w3.heap.size
    have z4 := Dr.le d4
    clear d4
    have hm := hm.below b4 (by omega)
    have hs := hs.below b4 (by omega)
    have hf := hf.below b4 (by omega)
    have A := A.below b4 (by omega)
    have S := S.below b4 (by omega)
    have B4 := B3.trans (b4.mono (by omega))
    clear b4 B3
    rw [heqL]
    clear S
    go_wp2_with fail
    refine (i_ValidSuite hm (by omega) hs.rii (by omega) HSG.out).mono ?_
    rintro e w5 ⟨rfl, d5⟩
    have b5 := Dr.below d5 w4.heap.size
    have z5 := Dr.le d5
    clear d5
    have hm := hm.below b5 (by omega)
    have hs := hs.below b5 (by omega)
    have hf := hf.below b5 (by omega)
    have A := A.below b5 (by omega)
    have B5 := B4.trans (b5.mono (by omega))
    clear b5 B4
    rw [HV.out]
    go_wp2_with fail
    refine (s_SuspectsOf hm (by omega) hs.rii (by omega) HSG.out hf (by omega) (by omega) (by omega) (by omega) (by omega) (by omega)).mono ?_
    rintro e w6 ⟨Sa, Sc, rfl, S, b6⟩
    have z6 := b6.size
    have hm := hm.below b6 (by omega)
    have hs := hs.below b6 (by omega)
    have hf := hf.below b6 (by omega)
    have A := A.below b6 (by omega)
    have B6 := B5.trans (b6.mono (by omega))
    clear b6 B5
    rw [HL.out] at S
    rw [HL.out]
    go_wp2_with fail
    refine (l_equalLists A.rii S.rii (by omega) (by omega) HGR.out HGR.out).mono ?_
    rintro e w7 ⟨rfl, d7⟩
    have b7 := Dr.below d7 w6.heap.size
    have z7 := Dr.le d7
    clear d7
    have hm := hm.below b7 (by omega)
    have hs := hs.below b7 (by omega)
    have hf := hf.below b7 (by omega)
    have A := A.below b7 (by omega)
    have S := S.below b7 (by omega)
    have B7 := B6.trans (b7.mono (by omega))
    clear b7 B6
    rw [heqL]
    go_wp2
    go_ret
    exact ⟨rfl, B7⟩
  by_cases k2 : (m.length : Int) < t
  · skip
    go_wp2_with fail
    refine (i_SuspectsOf hm (by omega) hs.rii (by omega) HSG.out hf (by omega) (by omega) (by omega) (by omega) (by omega) (by omega)).mono ?_
    rintro e w2 ⟨Aa, Ac, rfl, A, b2⟩
    have z2 := b2.size
    have hm := hm.below b2 (by omega)
    have hs := hs.below b2 (by omega)
    have hf := hf.below b2 (by omega)
    have B2 := B1.trans (b2.mono (by omega))
    clear b2 B1
    rw [HL.out] at A
    rw [HL.out]
    go_wp2_with fail
    refine (s_SuspectsOf hm (by omega) hs.rii (by omega) HSG.out hf (by omega) (by omega) (by omega) (by omega) (by omega) (by omega)).mono ?_
    rintro e w3 ⟨Sa, Sc, rfl, S, b3⟩
    have z3 := b3.size
    have hm := hm.below b3 (by omega)
    have hs := hs.below b3 (by omega)
    have hf := hf.below b3 (by omega)
    have A := A.below b3 (by omega)
    have B3 := B2.trans (b3.mono (by omega))
    clear b3 B2
    rw [HL.out] at S
    rw [HL.out]
    go_wp2_with fail
    refine (l_equalLists A.rii S.rii (by omega) (by omega) HGR.out HGR.out).mono ?_
    rintro e w4 ⟨rfl, d4⟩
    have b4 := Dr.below d4 w3.heap.size
    have z4 := Dr.le d4
    clear d4
    have hm := hm.below b4 (by omega)
    have hs := hs.below b4 (by omega)
    have hf := hf.below b4 (by omega)
    have A := A.below b4 (by omega)
    have S := S.below b4 (by omega)
    have B4 := B3.trans (b4.mono (by omega))
    clear b4 B3
    rw [heqL]
    clear S
    go_wp2_with fail
    refine (i_ValidSuite hm (by omega) hs.rii (by omega) HSG.out).mono ?_
    rintro e w5 ⟨rfl, d5⟩
    have b5 := Dr.below d5 w4.heap.size
    have z5 := Dr.le d5
    clear d5
    have hm := hm.below b5 (by omega)
    have hs := hs.below b5 (by omega)
    have hf := hf.below b5 (by omega)
    have A := A.below b5 (by omega)
    have B5 := B4.trans (b5.mono (by omega))
    clear b5 B4
    rw [HV.out]
    go_wp2_with fail
    refine (s_SuspectsOf hm (by omega) hs.rii (by omega) HSG.out hf (by omega) (by omega) (by omega) (by omega) (by omega) (by omega)).mono ?_
    rintro e w6 ⟨Sa, Sc, rfl, S, b6⟩
    have z6 := b6.size
    have hm := hm.below b6 (by omega)
    have hs := hs.below b6 (by omega)
    have hf := hf.below b6 (by omega)
    have A := A.below b6 (by omega)
    have B6 := B5.trans (b6.mono (by omega))
    clear b6 B5
    rw [HL.out] at S
    rw [HL.out]
    go_wp2_with fail
    refine (l_equalLists A.rii S.rii (by omega) (by omega) HGR.out HGR.out).mono ?_
    rintro e w7 ⟨rfl, d7⟩
    have b7 := Dr.below d7 w6.heap.size
    have z7 := Dr.le d7
    clear d7
    have hm := hm.below b7 (by omega)
    have hs := hs.below b7 (by omega)
    have hf := hf.below b7 (by omega)
    have A := A.below b7 (by omega)
    have S := S.below b7 (by omega)
    have B7 := B6.trans (b7.mono (by omega))
    clear b7 B6
    rw [heqL]
    go_wp2
    go_ret
    exact ⟨rfl, B7⟩
  by_cases hle : f.length = s.length
  case neg =>
    have hne : ((f.length : Int) != (s.length : Int)) = true := by rw [bne_iff_ne]; omega
    go_wp2_with fail
    refine (i_SuspectsOf hm (by omega) hs.rii (by omega) HSG.out hf (by omega) (by omega) (by omega) (by omega) (by omega) (by omega)).mono ?_
    rintro e w2 ⟨Aa, Ac, rfl, A, b2⟩
    have z2 := b2.size
    have hm := hm.below b2 (by omega)
    have hs := hs.below b2 (by omega)
    have hf := hf.below b2 (by omega)
    have B2 := B1.trans (b2.mono (by omega))
    clear b2 B1
    rw [HL.out] at A
    rw [HL.out]
    go_wp2_with fail
    refine (s_SuspectsOf hm (by omega) hs.rii (by omega) HSG.out hf (by omega) (by omega) (by omega) (by omega) (by omega) (by omega)).mono ?_
    rintro e w3 ⟨Sa, Sc, rfl, S, b3⟩
    have z3 := b3.size
    have hm := hm.below b3 (by omega)
    have hs := hs.below b3 (by omega)
    have hf := hf.below b3 (by omega)
    have A := A.below b3 (by omega)
    have B3 := B2.trans (b3.mono (by omega))
    clear b3 B2
    rw [HL.out] at S
    rw [HL.out]
    go_wp2_with fail
    refine (l_equalLists A.rii S.rii (by omega) (by omega) HGR.out HGR.out).mono ?_
    rintro e w4 ⟨rfl, d4⟩
    have b4 := Dr.below d4 w3.heap.size
    have z4 := Dr.le d4
    clear d4
    have hm := hm.below b4 (by omega)
    have hs := hs.below b4 (by omega)
    have hf := hf.below b4 (by omega)
    have A := A.below b4 (by omega)
    have S := S.below b4 (by omega)
    have B4 := B3.trans (b4.mono (by omega))
    clear b4 B3
    rw [heqL]
    clear S
    go_wp2_with fail
    refine (i_ValidSuite hm (by omega) hs.rii (by omega) HSG.out).mono ?_
    rintro e w5 ⟨rfl, d5⟩
    have b5 := Dr.below d5 w4.heap.size
    have z5 := Dr.le d5
    clear d5
    have hm := hm.below b5 (by omega)
    have hs := hs.below b5 (by omega)
    have hf := hf.below b5 (by omega)
    have A := A.below b5 (by omega)
    have B5 := B4.trans (b5.mono (by omega))
    clear b5 B4
    rw [HV.out]
    go_wp2_with fail
    refine (s_SuspectsOf hm (by omega) hs.rii (by omega) HSG.out hf (by omega) (by omega) (by omega) (by omega) (by omega) (by omega)).mono ?_
    rintro e w6 ⟨Sa, Sc, rfl, S, b6⟩
    have z6 := b6.size
    have hm := hm.below b6 (by omega)
    have hs := hs.below b6 (by omega)
    have hf := hf.below b6 (by omega)
    have A := A.below b6 (by omega)
    have B6 := B5.trans (b6.mono (by omega))
    clear b6 B5
    rw [HL.out] at S
    rw [HL.out]
    go_wp2_with fail
    refine (l_equalLists A.rii S.rii (by omega) (by omega) HGR.out HGR.out).mono ?_
    rintro e w7 ⟨rfl, d7⟩
    have b7 := Dr.below d7 w6.heap.size
    have z7 := Dr.le d7
    clear d7
    have hm := hm.below b7 (by omega)
    have hs := hs.below b7 (by omega)
    have hf := hf.below b7 (by omega)
    have A := A.below b7 (by omega)
    have S := S.below b7 (by omega)
    have B7 := B6.trans (b7.mono (by omega))
    clear b7 B6
    rw [heqL]
    go_wp2
    go_ret
    exact ⟨rfl, B7⟩
  have hne : ((f.length : Int) != (s.length : Int)) = false := by rw [hle]; simp
  have HLE := Lib.hid hle
  have HJ : Hid (jdG m s f t = true) := by
    show _ = _
    unfold jdG okC
    rw [HOK.out, HOS.out, inR_true.2 (by omega)]; simp [hle]
  clear hle
  go_wp2_with fail
  refine (i_SuspectsOf hm (by omega) hs.rii (by omega) HSG.out hf (by omega) (by omega) (by omega) (by omega) (by omega) (by omega)).mono ?_
  rintro e w2 ⟨Aa, Ac, rfl, A, b2⟩
  have z2 := b2.size
  have hm := hm.below b2 (by omega)
  have hs := hs.below b2 (by omega)
  have hf := hf.below b2 (by omega)
  have B2 := B1.trans (b2.mono (by omega))
  clear b2 B1
  rw [HL.out] at A
  rw [HL.out]
  go_wp2_with fail
  refine (s_SuspectsOf hm (by omega) hs.rii (by omega) HSG.out hf (by omega) (by omega) (by omega) (by omega) (by omega) (by omega)).mono ?_
  rintro e w3 ⟨Sa, Sc, rfl, S, b3⟩
  have z3 := b3.size
  have hm := hm.below b3 (by omega)
  have hs := hs.below b3 (by omega)
  have hf := hf.below b3 (by omega)
  have A := A.below b3 (by omega)
  have B3 := B2.trans (b3.mono (by omega))
  clear b3 B2
  rw [HL.out] at S
  rw [HL.out]
  go_wp2_with fail
  refine (l_equalLists A.rii S.rii (by omega) (by omega) HGR.out HGR.out).mono ?_
  rintro e w4 ⟨rfl, d4⟩
  have b4 := Dr.below d4 w3.heap.size
  have z4 := Dr.le d4
  clear d4
  have hm := hm.below b4 (by omega)
  have hs := hs.below b4 (by omega)
  have hf := hf.below b4 (by omega)
  have A := A.below b4 (by omega)
  have S := S.below b4 (by omega)
  have B4 := B3.trans (b4.mono (by omega))
  clear b4 B3
  rw [heqL]
  clear S
  go_wp2_with fail
  refine (i_ValidSuite hm (by omega) hs.rii (by omega) HSG.out).mono ?_
  rintro e w5 ⟨rfl, d5⟩
  have b5 := Dr.below d5 w4.heap.size
  have z5 := Dr.le d5
  clear d5
  have hm := hm.below b5 (by omega)
  have hs := hs.below b5 (by omega)
  have hf := hf.below b5 (by omega)
  have A := A.below b5 (by omega)
  have B5 := B4.trans (b5.mono (by omega))
  clear b5 B4
  rw [HV.out]
  have HPO : Hid (∀ p ∈ L, okP m p = true ∧ susF s f p = true) := fun p hp => by
    rw [← HL.out] at hp
    have h := suL_mem hp
    exact ⟨((mem_patS HOK.out).1 h.2.1).1, h.2.2⟩
  have HXO : Hid (∀ x ∈ s, okT m x = true) := fun x hx => okS_all HOS.out hx
  clear heqL
  go_wp2
  go_loopw [8, 9, 10] (fun i _ _ wr => ∃ k : Nat, k ≤ L.length ∧ i = .int .i64 k ∧ Below w5.heap.size w5 wr) (fun i _ _ _ => L.length - (intOf i).toNat)
  case atStart => exact ⟨0, Nat.zero_le _, rfl, Below.refl _ _⟩
  case round =>
    obtain ⟨k, hk, rfl, hd⟩ := hrel
    have hz := hd.size
    have hm := hm.below hd (by omega)
    have hs := hs.below hd (by omega)
    have hf := hf.below hd (by omega)
    have A := A.below hd (by omega)
    have BB := B5.trans (hd.mono (by omega))
    by_cases hlt : k < L.length
    · skip
      obtain ⟨b1, o1, a5, c5, p, ha, _, hbh, hcell, hp, hx⟩ := A.rii.at hlt
      have hidx := idxII ha hlt Ac
      have hpl : p.length ≤ 5 := by have := HRW.out p (List.mem_of_getElem? hx.out); omega
      obtain ⟨hpo, hps⟩ := HPO.out p (List.mem_of_getElem? hx.out)
      have HPP := Lib.hid hpo
      obtain ⟨hc1, hc2⟩ := su_clear HLE.out hps
      have HC1 := Lib.hid hc1
      have HC2 : Hid (0 < cntB p s) := by
        obtain ⟨y, hy, hm⟩ := hc2
        exact List.countP_pos_iff.2 ⟨y, hy, hm⟩
      clear hpo hps hc1 hc2 ha
      have hf0 : Hid (cntB p (s.take 0) = 0) := by show _ = _; simp [cntB]
      obtain ⟨wo, hwo⟩ : ∃ y : World, y = wr := ⟨_, rfl⟩
      subst hwo
      go_wp2
      go_loopw [9, 10] (fun c j wr => ∃ i : Nat, i ≤ s.length ∧ j = .int .i64 i ∧ c = .int .i64 (cntB p (s.take i) : Nat) ∧ Below wo.heap.size wo wr) (fun _ j _ => s.length - (intOf j).toNat)
      case atStart => exact ⟨0, Nat.zero_le _, rfl, by rw [hf0.out]; rfl, Below.refl _ _⟩
      case round =>
        clear hf0
        obtain ⟨i, hi, rfl, rfl, hd2⟩ := hrel
        have hz2 := hd2.size
        have hcn : cntB p (s.take i) ≤ 24 := by have := cntB_le p (s.take i); simp at this; omega
        by_cases hlt2 : i < s.length
        · skip
          obtain ⟨b2, o2, a4, c4, x, ha2, _, hbh2, hcell2, hxr, hx2⟩ := (hs.rii.below hd2 (by omega)).at hlt2
          have hidx2 := idxII ha2 hlt2 c2
          have hxl := HSR.out x (List.mem_of_getElem? hx2.out)
          have hmm := hm.below hd2 (by omega)
          have hpp := hp.below hd2 (by omega)
          have hcp := (hd2.cell (p := ⟨b1, o1 + k, none⟩) (by show b1 < _; omega)).trans hcell
          have HCN := Lib.hid (cntB_snoc (p := p) hx2.out)
          have HXT := Lib.hid (HXO.out x (List.mem_of_getElem? hx2.out))
          obtain ⟨b3, o3, z, ha3, _, hbh3, hcell3, hz3⟩ := (hf.below hd2 (by omega)).at (show i < f.length by have := HLE.out; omega)
          have hidx3 := idxBo ha3 (show i < f.length by have := HLE.out; omega) c3
          have HZT : Hid (mB p x = true → z = true) := fun hmx => by have h := HC1.out i x hx2.out hmx; rw [hz3.out] at h; exact Option.some.inj h
          obtain ⟨cn, hcne⟩ : ∃ c, cntB p (s.take i) = c := ⟨_, rfl⟩
          rw [hcne] at hcn HCN
          rw [hcne]
          clear hcne
          have HS1 : Hid (∀ w', Below wr.heap.size wr w' → w'.cell? ⟨b1, o1 + k, none⟩ = some (.slice a5 p.length c5)) := fun w' hb => (hb.cell (p := ⟨b1, o1 + k, none⟩) (by show b1 < _; omega)).trans hcp
          have HS2 : Hid (∀ w', Below wr.heap.size wr w' → w'.cell? ⟨b2, o2 + i, none⟩ = some (.slice a4 x.length c4)) := fun w' hb => (hb.cell (p := ⟨b2, o2 + i, none⟩) (by show b2 < _; omega)).trans hcell2
          have HB3 : Hid (b3 < wr.heap.size) := by show b3 < _; omega
          cases hy : mB p x
          · skip
            have HM1 : Hid ((okM m && okP m p && okT m x && mB p x) = false) := by show _ = _; rw [HOK.out, HPP.out, HXT.out, hy]; rfl
            rw [hy] at HCN
            have HCA : Hid (∀ w', Below wr.heap.size wr w' → Calls Try.prog 57 #[.slice a1 m.length c1, .slice a5 p.length c5, .slice a4 x.length c4] w' (fun e v => e = .returned (.bool false) ∧ Below wr.heap.size wr v)) := fun w' hb => i_MatchesB' hb hmm (by omega) hpp (by omega) hxr (by omega) (by omega) (by omega) (by omega) HM1.out
            clear hcell2 hcp hpp hxr hmm hx2 ha2 ha3 HM1 hy
            go_wp2_with fail
            refine wp_region_new (by rfl) (by kernel_rfl) ?_
            (refine wpQuiet_step (fun K hK => ?_); go_simp; first | refine hK _ ?_ | refine ⟨_, fun _ _ => rfl, hK _ ?_⟩; clear hK K)
            (refine wpQuiet_step (fun K hK => ?_); go_simp; first | refine hK _ ?_ | refine ⟨_, fun _ _ => rfl, hK _ ?_⟩; clear hK K)
            (refine wpQuiet_step (fun K hK => ?_); go_simp; first | refine hK _ ?_ | refine ⟨_, fun _ _ => rfl, hK _ ?_⟩; clear hK K)
            (refine wpQuiet_step (fun K hK => ?_); go_simp; first | refine hK _ ?_ | refine ⟨_, fun _ _ => rfl, hK _ ?_⟩; clear hK K)
            (refine wpQuiet_step (fun K hK => ?_); go_simp; refine ⟨.slice a5 p.length c5, fun wq hq => ?_, hK _ ?_⟩; (have hc := HS1.out wq hq; simp [hc, Result.andThen]); clear hK K)
            (refine wpQuiet_step (fun K hK => ?_); go_simp; first | refine hK _ ?_ | refine ⟨_, fun _ _ => rfl, hK _ ?_⟩; clear hK K)
            (refine wpQuiet_step (fun K hK => ?_); go_simp; first | refine hK _ ?_ | refine ⟨_, fun _ _ => rfl, hK _ ?_⟩; clear hK K)
            (refine wpQuiet_step (fun K hK => ?_); go_simp; first | refine hK _ ?_ | refine ⟨_, fun _ _ => rfl, hK _ ?_⟩; clear hK K)
            (refine wpQuiet_step (fun K hK => ?_); go_simp; refine ⟨.slice a4 x.length c4, fun wq hq => ?_, hK _ ?_⟩; (have hc := HS2.out wq hq; simp [hc, Result.andThen]); clear hK K)
            (refine wpQuiet_step (fun K hK => ?_); go_simp; refine ⟨.bool false, fun wq hq => (HCA.out wq hq).mono ?_, hK _ ?_⟩; (rintro e v ⟨rfl, hv⟩; exact ⟨rfl, hv⟩); clear hK K)
            refine wpQuiet_nil ?_
            intro wz hbz
            have hd3 := hd2.trans (hbz.mono (by omega))
            go_wp2
            go_roundw
            case rel => exact ⟨i + 1, by omega, by go_num, by rw [HCN.out]; first | rfl | go_num | simp, hd3⟩
            case measure => simp [intOf]; omega
          · skip
            have HM1 : Hid ((okM m && okP m p && okT m x && mB p x) = true) := by show _ = _; rw [HOK.out, HPP.out, HXT.out, hy]; rfl
            rw [hy] at HCN
            have hzt := HZT.out hy
            subst hzt
            have HCA : Hid (∀ w', Below wr.heap.size wr w' → Calls Try.prog 57 #[.slice a1 m.length c1, .slice a5 p.length c5, .slice a4 x.length c4] w' (fun e v => e = .returned (.bool true) ∧ Below wr.heap.size wr v)) := fun w' hb => i_MatchesB' hb hmm (by omega) hpp (by omega) hxr (by omega) (by omega) (by omega) (by omega) HM1.out
            clear hcell2 hcp hpp hxr hmm hx2 ha2 ha3 HM1 hy
            go_wp2_with fail
            refine wp_region_new (by rfl) (by kernel_rfl) ?_
            (refine wpQuiet_step (fun K hK => ?_); go_simp; first | refine hK _ ?_ | refine ⟨_, fun _ _ => rfl, hK _ ?_⟩; clear hK K)
            (refine wpQuiet_step (fun K hK => ?_); go_simp; first | refine hK _ ?_ | refine ⟨_, fun _ _ => rfl, hK _ ?_⟩; clear hK K)
            (refine wpQuiet_step (fun K hK => ?_); go_simp; first | refine hK _ ?_ | refine ⟨_, fun _ _ => rfl, hK _ ?_⟩; clear hK K)
            (refine wpQuiet_step (fun K hK => ?_); go_simp; first | refine hK _ ?_ | refine ⟨_, fun _ _ => rfl, hK _ ?_⟩; clear hK K)
            (refine wpQuiet_step (fun K hK => ?_); go_simp; refine ⟨.slice a5 p.length c5, fun wq hq => ?_, hK _ ?_⟩; (have hc := HS1.out wq hq; simp [hc, Result.andThen]); clear hK K)
            (refine wpQuiet_step (fun K hK => ?_); go_simp; first | refine hK _ ?_ | refine ⟨_, fun _ _ => rfl, hK _ ?_⟩; clear hK K)
            (refine wpQuiet_step (fun K hK => ?_); go_simp; first | refine hK _ ?_ | refine ⟨_, fun _ _ => rfl, hK _ ?_⟩; clear hK K)
            (refine wpQuiet_step (fun K hK => ?_); go_simp; first | refine hK _ ?_ | refine ⟨_, fun _ _ => rfl, hK _ ?_⟩; clear hK K)
            (refine wpQuiet_step (fun K hK => ?_); go_simp; refine ⟨.slice a4 x.length c4, fun wq hq => ?_, hK _ ?_⟩; (have hc := HS2.out wq hq; simp [hc, Result.andThen]); clear hK K)
            (refine wpQuiet_step (fun K hK => ?_); go_simp; refine ⟨.bool true, fun wq hq => (HCA.out wq hq).mono ?_, hK _ ?_⟩; (rintro e v ⟨rfl, hv⟩; exact ⟨rfl, hv⟩); clear hK K)
            refine wpQuiet_nil ?_
            intro wz hbz
            have hd3 := hd2.trans (hbz.mono (by omega))
            have hcell3 := (hbz.cell (p := ⟨b3, o3 + i, none⟩) HB3.out).trans hcell3
            go_wp2
            go_roundw
            case rel => exact ⟨i + 1, by omega, by go_num, by rw [HCN.out]; first | rfl | go_num | simp, hd3⟩
            case measure => simp [intOf]; omega
        · skip
          have HT : Hid (s.take i = s) := List.take_of_length_le (by omega)
          rw [HT.out] at hcn
          rw [HT.out]
          have hc0 := HC2.out
          obtain ⟨cn, hcne⟩ : ∃ c, cntB p s = c := ⟨_, rfl⟩
          rw [hcne] at hcn hc0
          rw [hcne]
          clear hcne
          have hne0 : ((cn : Int) == 0) = false := by rw [beq_eq_false_iff_ne]; omega
          have hne1 : (cn == 0) = false := by rw [beq_eq_false_iff_ne]; omega
          have hd3 := hd.trans (hd2.mono (by omega))
          go_wp2
          go_roundw
          case rel => exact ⟨k + 1, by omega, by go_num, hd3⟩
          case measure => simp [intOf]; omega
    · skip
      go_wp2
      go_ret
      exact ⟨rfl, BB⟩

end Go.Proofs.Ytehoagbpgahopaa
