/- The walk of FnDropFactor: it returns true and writes nothing that was there. -/
import Derived.Test.YtcdhahdobegagaaRv
namespace Go.Proofs.Ytcdhahdobegagaa
open Go.RowKit

set_option maxRecDepth 100000 in
set_option maxHeartbeats 2000000 in
theorem law_FnDropFactor {m0 : Nat} {a0 : Option Addr} {c0 : Nat} {w : World} (f0 : RB w w.heap.size a0 m0) (l0 : m0 ≤ c0) :
    Calls Try.prog 14 #[.slice a0 m0 c0] w (Tru w) := by
  by_cases hb : m0 ≤ 1048576
  case neg =>
    go_enter Try.func14, Try.ntmps14
    go_wp2
    go_ret
    exact ⟨rfl, Below.refl _ _⟩
  go_enter Try.func14, Try.ntmps14
  go_wp2_with fail
  refine (s_DrawDropFactor f0 l0 hb).mono ?_
  rintro e w1 ⟨a1, c1, m, a2, c2, s, f, rfl, ⟨hG, hS, hf⟩, B1⟩
  have z1 := B1.size
  have mcap := hG.cap
  have hm := hG.ri
  have hs := hS.ric
  have hl10 := hG.lp.1
  have hsl := hS.sq.1
  have scap := hS.ric.cap
  have HSR : Hid (∀ r ∈ s, r.length ≤ 12) := fun r h => (hS.sq.2 r h).1
  have HSG : Hid (∀ r ∈ s, r.length ≤ 9223372036854775807) := fun r h => by have := (hS.sq.2 r h).1; omega
  clear hG hS
  clear f0
  obtain ⟨L, hL⟩ : ∃ L, drL m s f = L := ⟨_, rfl⟩
  obtain ⟨b, hB⟩ : ∃ b, drB m s f = b := ⟨_, rfl⟩
  have HL := Lib.hid hL
  have HB := Lib.hid hB
  have HLN := @drL_len m s f
  have HGR := Lib.hid (@drL_gr m s f).2
  rw [hL] at HLN HGR
  have heqL : eqII L L = true := eqII_true.2 rfl
  clear hL hB
  cases b
  · skip
    go_wp2_with fail
    refine (i_DropFactor hm (by omega) hs.rii (by omega) HSG.out (by omega) (by omega) (by omega) (by omega)).mono ?_
    rintro e w2 ⟨Aa, Ac, rfl, A, b2⟩
    have z2 := b2.size
    have hm := hm.below b2 (by omega)
    have hs := hs.below b2 (by omega)
    have B2 := B1.trans (b2.mono (by omega))
    clear b2 B1
    rw [HL.out] at A
    rw [HL.out, HB.out]
    go_wp2_with fail
    refine (s_DropFactor hm (by omega) hs.rii (by omega) HSG.out (by omega) (by omega) (by omega) (by omega)).mono ?_
    rintro e w3 ⟨Sa, Sc, rfl, S, b3⟩
    have z3 := b3.size
    have hm := hm.below b3 (by omega)
    have hs := hs.below b3 (by omega)
    have A := A.below b3 (by omega)
    have B3 := B2.trans (b3.mono (by omega))
    clear b3 B2
    rw [HL.out] at S
    rw [HL.out, HB.out]
    go_wp2_with fail
    refine (l_equalLists A.rii S.rii (by omega) (by omega) HGR.out HGR.out).mono ?_
    rintro e w4 ⟨rfl, d4⟩
    have b4 := Dr.below d4 w3.heap.size
    have z4 := Dr.le d4
    clear d4
    have hm := hm.below b4 (by omega)
    have hs := hs.below b4 (by omega)
    have A := A.below b4 (by omega)
    have S := S.below b4 (by omega)
    have B4 := B3.trans (b4.mono (by omega))
    clear b4 B3
    rw [heqL]
    go_wp2_with fail
    refine (l_equalLists A.rii S.rii (by omega) (by omega) HGR.out HGR.out).mono ?_
    rintro e w5 ⟨rfl, d5⟩
    have b5 := Dr.below d5 w4.heap.size
    have z5 := Dr.le d5
    clear d5
    have hm := hm.below b5 (by omega)
    have hs := hs.below b5 (by omega)
    have A := A.below b5 (by omega)
    have S := S.below b5 (by omega)
    have B5 := B4.trans (b5.mono (by omega))
    clear b5 B4
    rw [heqL]
    go_wp2
    go_ret
    exact ⟨rfl, B5⟩
  go_wp2_with fail
  refine (i_DropFactor hm (by omega) hs.rii (by omega) HSG.out (by omega) (by omega) (by omega) (by omega)).mono ?_
  rintro e w2 ⟨Aa, Ac, rfl, A, b2⟩
  have z2 := b2.size
  have hm := hm.below b2 (by omega)
  have hs := hs.below b2 (by omega)
  have B2 := B1.trans (b2.mono (by omega))
  clear b2 B1
  rw [HL.out] at A
  rw [HL.out, HB.out]
  go_wp2_with fail
  refine (s_DropFactor hm (by omega) hs.rii (by omega) HSG.out (by omega) (by omega) (by omega) (by omega)).mono ?_
  rintro e w3 ⟨Sa, Sc, rfl, S, b3⟩
  have z3 := b3.size
  have hm := hm.below b3 (by omega)
  have hs := hs.below b3 (by omega)
  have A := A.below b3 (by omega)
  have B3 := B2.trans (b3.mono (by omega))
  clear b3 B2
  rw [HL.out] at S
  rw [HL.out, HB.out]
  go_wp2_with fail
  refine (l_equalLists A.rii S.rii (by omega) (by omega) HGR.out HGR.out).mono ?_
  rintro e w4 ⟨rfl, d4⟩
  have b4 := Dr.below d4 w3.heap.size
  have z4 := Dr.le d4
  clear d4
  have hm := hm.below b4 (by omega)
  have hs := hs.below b4 (by omega)
  have A := A.below b4 (by omega)
  have S := S.below b4 (by omega)
  have B4 := B3.trans (b4.mono (by omega))
  clear b4 B3
  rw [heqL]
  have HFU := Lib.hid (drop_law HB.out)
  rw [HL.out] at HFU
  obtain ⟨fn, hfn, hfl, h2, hm5, hM2, hS2, hLs, hIC⟩ := HFU.out
  subst hfn
  have HIC := Lib.hid hIC
  obtain ⟨l, hl⟩ : ∃ l, m.eraseIdx fn = l := ⟨_, rfl⟩
  have hll : l.length = m.length - 1 := by rw [← hl, List.length_eraseIdx, if_pos hfl]
  have HLL := Lib.hid hll
  rw [hl] at HIC hM2 hS2
  have HVS : Hid ((okM l && okS l L) = true) := by show _ = _; rw [hM2, hS2]; rfl
  have hls : ((L.length : Int) == (s.length : Int)) = true := by rw [beq_iff_eq, hLs]
  have HDR := Lib.hid (l_drop hm (by omega) (by omega) mcap hfl)
  rw [hl] at HDR
  have HG9 : Hid (∀ r ∈ L, r.length ≤ 9223372036854775807) := fun r h => by have := HGR.out r h; omega
  have hl5 : l.length ≤ 5 := by omega
  clear hIC hM2 hS2 hl hll hLs HFU S
  go_wp2_with fail
  refine HDR.out.mono ?_
  rintro e w7 ⟨Qa, Qc, rfl, Q, b7⟩
  have z7 := b7.size
  have hm := hm.below b7 (by omega)
  have hs := hs.below b7 (by omega)
  have A := A.below b7 (by omega)
  have B7 := B4.trans (b7.mono (by omega))
  clear b7 B4 HDR
  go_wp2
  go_loopw [11] (fun i wr => ∃ k : Nat, k ≤ l.length + 1 ∧ i = .int .i64 k ∧ Below w7.heap.size w7 wr) (fun i _ => l.length + 1 - (intOf i).toNat)
  case atStart => exact ⟨0, Nat.zero_le _, rfl, Below.refl _ _⟩
  case round =>
    obtain ⟨k, hk, rfl, hd⟩ := hrel
    have hz := hd.size
    have hm := hm.below hd (by omega)
    have hs := hs.below hd (by omega)
    have A := A.below hd (by omega)
    have Q := Q.below hd (by omega)
    have BB := B7.trans (hd.mono (by omega))
    by_cases hlt : (k : Int) ≤ (l.length : Int)
    · skip
      obtain ⟨v, hv⟩ : ∃ v, icB m s k = v := ⟨_, rfl⟩
      have HV := Lib.hid hv
      clear hv
      go_wp2_with fail
      refine (i_IsCovering hm (by omega) hs.rii (by omega) HSG.out (by omega) (by omega) (by omega) (by omega)).mono ?_
      rintro e v1 ⟨rfl, b1⟩
      rw [HV.out]
      have y1 := b1.size
      have hd1 := hd.trans (b1.mono (by omega))
      cases v
      · clear BB hd b1
        go_wp2
        go_roundw
        case rel => exact ⟨k + 1, by omega, by go_num, hd1⟩
        case measure => simp [intOf]; omega
      · have HI2 : Hid (icB l L k = true) := HIC.out k (by have := HLL.out; omega) HV.out
        have Q := Q.below b1 (by omega)
        have A := A.below b1 (by omega)
        clear BB hd b1
        go_wp2_with fail
        refine (i_IsCovering Q.ri (by omega) A.rii (by omega) HG9.out (by omega) (by omega) (by omega) (by omega)).mono ?_
        rintro e v2 ⟨rfl, b2⟩
        rw [HI2.out]
        have hd2 := hd1.trans (b2.mono (by omega))
        clear b2
        go_wp2
        go_roundw
        case rel => exact ⟨k + 1, by omega, by go_num, hd2⟩
        case measure => simp [intOf]; omega
    · skip
      go_wp2_with fail
      refine (i_ValidSuite Q.ri (by omega) A.rii (by omega) HG9.out).mono ?_
      rintro e v3 ⟨rfl, d3⟩
      rw [HVS.out]
      go_wp2
      go_ret
      exact ⟨rfl, BB.trans (Dr.below d3 _)⟩

end Go.Proofs.Ytcdhahdobegagaa
