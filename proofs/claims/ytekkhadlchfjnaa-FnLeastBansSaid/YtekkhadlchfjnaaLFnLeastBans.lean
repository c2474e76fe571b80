/- The walk of FnLeastBans: it returns true and writes nothing that was there. -/
import Derived.Test.YtekkhadlchfjnaaRo
import Derived.Test.YtekkhadlchfjnaaRi
import Derived.Test.YtekkhadlchfjnaaVt
import Derived.Test.YtekkhadlchfjnaaZj
import Derived.Test.YtekkhadlchfjnaaZk
import Derived.Test.YtekkhadlchfjnaaVh
import Derived.Test.YtekkhadlchfjnaaWs
import Derived.Test.YtekkhadlchfjnaaYi
import Derived.Test.YtekkhadlchfjnaaZu
import Derived.Test.YtekkhadlchfjnaaVx
namespace Go.Proofs.Ytekkhadlchfjnaa
open Go.RowKit

theorem bset {B : Nat} {w w1 : World} {p : Addr} {v : Value} (h : Below B w w1) (hp : B ≤ p.block) : Below B w (w1.setCell p v) :=
  ⟨h.os, h.tape, h.output, by simp [World.setCell]; exact h.size, fun k hk => (Below.heap_setCell _ _ _ _ (by omega)).trans (h.block k hk)⟩
theorem bset_size {w1 : World} {p : Addr} {v : Value} : w1.heap.size ≤ (w1.setCell p v).heap.size ∧ (w1.setCell p v).heap.size ≤ w1.heap.size := by simp [World.setCell]

set_option maxRecDepth 100000 in
set_option maxHeartbeats 2000000 in
theorem law_FnLeastBans {m0 : Nat} {a0 : Option Addr} {c0 : Nat} {w : World} (f0 : RB w w.heap.size a0 m0) (l0 : m0 ≤ c0) :
    Calls Try.prog 5 #[.slice a0 m0 c0] w (Tru w) := by
  by_cases hb : m0 ≤ 1048576
  case neg =>
    go_enter Try.func5, Try.ntmps5
    go_wp2
    go_ret
    exact ⟨rfl, Below.refl _ _⟩
  go_enter Try.func5, Try.ntmps5
  go_wp2_with fail
  refine (s_DrawLeastBans f0 l0 hb).mono ?_
  rintro e w1 ⟨a1, c1, m, a2, c2, s, rfl, ⟨hG, hS⟩, B1⟩
  have z1 := B1.size
  have hm := hG.ri
  have hs := hS.ric
  have hl10 := hG.lp.1
  have hsl := hS.sq.1
  have scap := hS.ric.cap
  have HSR : Hid (∀ r ∈ s, r.length ≤ 12) := fun r h => (hS.sq.2 r h).1
  have HSG : Hid (∀ r ∈ s, r.length ≤ 9223372036854775807) := fun r h => by have := (hS.sq.2 r h).1; omega
  have hcap := hG.cap
  clear hG hS
  clear f0
  obtain ⟨L, hL⟩ : ∃ L, lbL m s = L := ⟨_, rfl⟩
  have HL := Lib.hid hL
  have HLN := @lbL_len m s
  have HGR := Lib.hid (@lbL_gr m s).2
  have HRW := Lib.hid (@lbL_row m s)
  rw [hL] at HLN HGR HRW
  have heqL : eqII L L = true := eqII_true.2 rfl
  clear hL
  obtain ⟨G, hG⟩ : ∃ G, atL m s = G := ⟨_, rfl⟩
  have HGL := Lib.hid hG
  have HGN := @atL_len m s
  have HGG := Lib.hid (@atL_gr m s).2
  rw [hG] at HGN HGG
  clear hG
  cases hok : (okM m && okBn m s)
  · skip
    have HV := Lib.hid hok; clear hok
    go_wp2_with fail
    refine (i_LeastBans hm (by omega) hs.rii (by omega) HSG.out (by omega) (by omega)).mono ?_
    rintro e w2 ⟨Aa, Ac, rfl, A, b2⟩
    have z2 := b2.size
    have hm := hm.below b2 (by omega)
    have hs := hs.below b2 (by omega)
    have B2 := B1.trans (b2.mono (by omega))
    clear b2 B1
    rw [HL.out] at A ⊢
    go_wp2_with fail
    refine (s_LeastBans hm (by omega) hs.rii (by omega) HSG.out (by omega) (by omega)).mono ?_
    rintro e w3 ⟨Sa, Sc, rfl, S, b3⟩
    have z3 := b3.size
    have hm := hm.below b3 (by omega)
    have hs := hs.below b3 (by omega)
    have A := A.below b3 (by omega)
    have B3 := B2.trans (b3.mono (by omega))
    clear b3 B2
    rw [HL.out] at S ⊢
    go_wp2_with fail
    refine (l_equalLists A.rii S.rii (by omega) (by omega) HGR.out HGR.out).mono ?_
    rintro e w4 ⟨rfl, d4⟩
    have b4 := Dr.below d4 w3.heap.size
    have z4 := Dr.le d4
    clear d4
    have hm := hm.below b4 (by omega)
    have hs := hs.below b4 (by omega)
    have A := A.below b4 (by omega)
    have S := S.below b4 (by omega)
    have B4 := B3.trans (b4.mono (by omega))
    clear b4 B3
    rw [heqL]
    go_wp2_with fail
    refine (i_ValidBans hm (by omega) hs.rii (by omega) HSG.out).mono ?_
    rintro e w5 ⟨rfl, d5⟩
    have b5 := Dr.below d5 w4.heap.size
    have z5 := Dr.le d5
    clear d5
    have hm := hm.below b5 (by omega)
    have hs := hs.below b5 (by omega)
    have A := A.below b5 (by omega)
    have B5 := B4.trans (b5.mono (by omega))
    clear b5 B4
    rw [HV.out]
    go_wp2_with fail
    refine (s_LeastBans hm (by omega) hs.rii (by omega) HSG.out (by omega) (by omega)).mono ?_
    rintro e w6 ⟨Ua, Uc, rfl, U, b6⟩
    have z6 := b6.size
    have hm := hm.below b6 (by omega)
    have hs := hs.below b6 (by omega)
    have A := A.below b6 (by omega)
    have B6 := B5.trans (b6.mono (by omega))
    clear b6 B5
    rw [HL.out] at U ⊢
    go_wp2_with fail
    refine (l_equalLists A.rii U.rii (by omega) (by omega) HGR.out HGR.out).mono ?_
    rintro e w7 ⟨rfl, d7⟩
    have b7 := Dr.below d7 w6.heap.size
    have z7 := Dr.le d7
    clear d7
    have hm := hm.below b7 (by omega)
    have hs := hs.below b7 (by omega)
    have A := A.below b7 (by omega)
    have U := U.below b7 (by omega)
    have B7 := B6.trans (b7.mono (by omega))
    clear b7 B6
    rw [heqL]
    go_wp2
    go_ret
    exact ⟨rfl, B7⟩
  have HV := Lib.hid hok
  have HOK : Hid (okM m = true) := by show _ = _; rw [Bool.and_eq_true] at hok; exact hok.1
  have HOB : Hid (okBn m s = true) := by show _ = _; rw [Bool.and_eq_true] at hok; exact hok.2
  clear hok
  have hF := lb_facts HOK.out HOB.out
  rw [HL.out, HGL.out] at hF
  have HHS := Lib.hid hF.1; have HMT := Lib.hid hF.2
  have HROW : Hid (∀ q ∈ L, okP m q = true ∧ ipB m s q = false ∧ ∀ k, k < m.length → at5 q k ≠ -1 → ipB m s (q.set k (-1)) = true) := fun q hq => by rw [← HL.out] at hq; exact lb_row HOK.out HOB.out hq
  clear hF
  have HQL := @apL_len m m.length
  have HQG := Lib.hid (@apL_row m m.length)
  go_wp2_with fail
  refine (i_LeastBans hm (by omega) hs.rii (by omega) HSG.out (by omega) (by omega)).mono ?_
  rintro e w2 ⟨Aa, Ac, rfl, A, b2⟩
  have z2 := b2.size
  have hm := hm.below b2 (by omega)
  have hs := hs.below b2 (by omega)
  have B2 := B1.trans (b2.mono (by omega))
  clear b2 B1
  rw [HL.out] at A ⊢
  go_wp2_with fail
  refine (s_LeastBans hm (by omega) hs.rii (by omega) HSG.out (by omega) (by omega)).mono ?_
  rintro e w3 ⟨Sa, Sc, rfl, S, b3⟩
  have z3 := b3.size
  have hm := hm.below b3 (by omega)
  have hs := hs.below b3 (by omega)
  have A := A.below b3 (by omega)
  have B3 := B2.trans (b3.mono (by omega))
  clear b3 B2
  rw [HL.out] at S ⊢
  go_wp2_with fail
  refine (l_equalLists A.rii S.rii (by omega) (by omega) HGR.out HGR.out).mono ?_
  rintro e w4 ⟨rfl, d4⟩
  have b4 := Dr.below d4 w3.heap.size
  have z4 := Dr.le d4
  clear d4
  have hm := hm.below b4 (by omega)
  have hs := hs.below b4 (by omega)
  have A := A.below b4 (by omega)
  have S := S.below b4 (by omega)
  have B4 := B3.trans (b4.mono (by omega))
  clear b4 B3
  rw [heqL]
  go_wp2_with fail
  refine (i_ValidBans hm (by omega) hs.rii (by omega) HSG.out).mono ?_
  rintro e w5 ⟨rfl, d5⟩
  have b5 := Dr.below d5 w4.heap.size
  have z5 := Dr.le d5
  clear d5
  have hm := hm.below b5 (by omega)
  have hs := hs.below b5 (by omega)
  have A := A.below b5 (by omega)
  have B5 := B4.trans (b5.mono (by omega))
  clear b5 B4
  rw [HV.out]
  go_wp2_with fail
  refine (i_AllowedTests hm (by omega) hs.rii (by omega) HSG.out (by omega) (by omega)).mono ?_
  rintro e w6 ⟨Ea, Ec, rfl, E, b6⟩
  have z6 := b6.size
  have hm := hm.below b6 (by omega)
  have hs := hs.below b6 (by omega)
  have A := A.below b6 (by omega)
  have B6 := B5.trans (b6.mono (by omega))
  clear b6 B5
  rw [HGL.out] at E ⊢
  go_wp2_with fail
  refine (i_AllTests hm (by omega) (by omega)).mono ?_
  rintro e w7 ⟨Qa, Qc, rfl, Q, b7⟩
  have z7 := b7.size
  have hm := hm.below b7 (by omega)
  have hs := hs.below b7 (by omega)
  have A := A.below b7 (by omega)
  have E := E.below b7 (by omega)
  have B7 := B6.trans (b7.mono (by omega))
  clear b7 B6
  obtain ⟨P, hP⟩ : ∃ P, apL m m.length = P := ⟨_, rfl⟩
  rw [hP] at Q HQL HQG HHS HMT ⊢
  clear hP S
  go_wp2
  go_loopw [8] (fun i wr => ∃ k : Nat, k ≤ P.length ∧ i = .int .i64 k ∧ Below w7.heap.size w7 wr) (fun i _ => P.length - (intOf i).toNat)
  case atStart => exact ⟨0, Nat.zero_le _, rfl, Below.refl _ _⟩
  case round =>
    obtain ⟨k, hk, rfl, hd⟩ := hrel
    obtain ⟨wo, rfl⟩ : ∃ x : World, x = wr := ⟨_, rfl⟩
    have hz := hd.size
    have hm := hm.below hd (by omega)
    have hs := hs.below hd (by omega)
    have A := A.below hd (by omega)
    have E := E.below hd (by omega)
    have BB := B7.trans (hd.mono (by omega))
    by_cases hlt : k < P.length
    · skip
      obtain ⟨b, o, a3, c3, r, ha, _, hbh, hcell, hr, hx⟩ := (Q.rii.below hd (by omega)).at hlt
      have hidx := idxII ha hlt Qc
      have hrl : r.length ≤ 5 := by have := HQG.out r (List.mem_of_getElem? hx.out); omega
      have HHR : Hid (hasL G r = !bnB L r) := HHS.out r (List.mem_of_getElem? hx.out)
      have HMR : Hid (∀ q ∈ L, (okM m && okP m q && okT m r && mB q r) = mB q r) := HMT.out r (List.mem_of_getElem? hx.out)
      clear ha Q HROW
      go_wp2
      go_loopw [9, 10] (fun tv jv wr => ∃ j : Nat, j ≤ L.length ∧ jv = .int .i64 j ∧ tv = .bool (bnB (L.take j) r) ∧ Below wo.heap.size wo wr) (fun _ jv _ => L.length - (intOf jv).toNat)
      case atStart => exact ⟨0, Nat.zero_le _, rfl, by simp [bnB], Below.refl _ _⟩
      case round =>
        obtain ⟨j, hj, rfl, rfl, hd2⟩ := hrel
        have hz2 := hd2.size
        have hcellr : wr.cell? ⟨b, o + k, none⟩ = some (.slice a3 r.length c3) := (hd2.cell (p := ⟨b, o + k, none⟩) (by show b < _; omega)).trans hcell
        have hr := hr.below hd2 (by omega)
        have hm := hm.below hd2 (by omega)
        have A := A.below hd2 (by omega)
        by_cases hjl : j < L.length
        · skip
          obtain ⟨b6, o6, a6, c6, q, ha6, _, hbh6, hcell6, hq6, hx6⟩ := A.rii.at hjl
          have hidx6 := idxII ha6 hjl Ac
          have hql : q.length ≤ 5 := by have := HRW.out q (List.mem_of_getElem? hx6.out); omega
          have HNX : Hid (bnB (L.take (j + 1)) r = (bnB (L.take j) r || mB q r)) := by
            show _ = _; unfold bnB; rw [take_snoc hx6.out, List.any_append]; simp
          obtain ⟨dd, hdd⟩ : ∃ dd, mB q r = dd := ⟨_, rfl⟩
          have HDD := Lib.hid hdd
          have HC : Hid (∀ w', Below wr.heap.size wr w' → Calls Try.prog 23 #[.slice a1 m.length c1, .slice a6 q.length c6, .slice a3 r.length c3] w' (NewV w' (.bool dd))) := fun w' hb => by
            have h := i_Matches (c := c1) (c' := c6) (c'' := c3) (hm.below hb (by omega)) (by omega) (hq6.below hb (by omega)) (by omega) (hr.below hb (by omega)) (by omega) (by have := hb.size; omega) (by have := hb.size; omega)
            rw [HMR.out q (List.mem_of_getElem? hx6.out), hdd] at h; exact h
          have HS : Hid (∀ w', Below wr.heap.size wr w' → w'.cell? ⟨b, o + k, none⟩ = some (.slice a3 r.length c3) ∧ w'.cell? ⟨b6, o6 + j, none⟩ = some (.slice a6 q.length c6)) := fun w' hb => ⟨(hb.cell (p := ⟨b, o + k, none⟩) (by show b < _; omega)).trans hcellr, (hb.cell (p := ⟨b6, o6 + j, none⟩) (by show b6 < _; omega)).trans hcell6⟩
          clear ha6 hcell hdd A hs hr hm hq6
          have hq1 : Below wr.heap.size wr wr := Below.refl _ _
          cases hb : bnB (L.take j) r
          · skip
            have HB := Lib.hid hb; clear hb
            have HT : Hid (bnB (L.take (j + 1)) r = dd) := by show _ = _; rw [HNX.out, HB.out, HDD.out]; rfl
            go_wp2_with fail
            go_region_held3 (fun w' => w'.cell? ⟨b, o + k, none⟩ = some (.slice a3 r.length c3) ∧ w'.cell? ⟨b6, o6 + j, none⟩ = some (.slice a6 q.length c6)) (first | exact HS.out _ (by first | exact hq5 | exact hq1.drew | exact hq1) | go_keep) ((go_at_call 23; refine (HC.out _ (by first | exact hq1.drew | exact hq1)).mono ?_; rintro e v5 ⟨rfl, hb5⟩; have hq5 : Below wr.heap.size wr v5 := (by first | exact hq1.drew.trans hb5 | exact hq1.trans hb5)))
            all_goals
              have hd5 := hd2.trans (hq5.mono (by omega))
              go_wp2
              go_roundw
              case rel => exact ⟨j + 1, by omega, by go_num, by rw [HT.out], hd5⟩
              case measure => simp [intOf]; omega
          · skip
            have HB := Lib.hid hb; clear hb
            have HT : Hid (bnB (L.take (j + 1)) r = true) := by show _ = _; rw [HNX.out, HB.out]; rfl
            go_wp2_with fail
            go_quiet (fail)
            go_wp2
            go_roundw
            case rel => exact ⟨j + 1, by omega, by go_num, by rw [HT.out], hd2.trans (Dr.below (Dr.drewN (Dr.refl _) _) _)⟩
            case measure => simp [intOf]; omega
        · skip
          have HTK : Hid (L.take j = L) := List.take_of_length_le (by omega)
          rw [HTK.out]
          obtain ⟨T, hT⟩ : ∃ T, bnB L r = T := ⟨_, rfl⟩
          rw [hT]
          have HT := Lib.hid hT
          have E := E.below hd2 (by omega)
          have hne : ((!T) == T) = false := by cases T <;> rfl
          clear hT
          go_wp2_with fail
          refine (l_holdsList E.rii hr (by omega) (by omega) HGG.out).mono ?_
          rintro e v6 ⟨rfl, d6⟩
          rw [HHR.out, HT.out]
          have hd6 := (hd.trans (hd2.mono (by omega))).trans (Dr.below d6 _)
          cases T
          all_goals
            go_wp2
            go_roundw
            case rel => exact ⟨k + 1, by omega, by go_num, hd6⟩
            case measure => simp [intOf]; omega
    · skip
      clear hd
      go_wp2
      go_loopw [11] (fun i wr => ∃ k : Nat, k ≤ L.length ∧ i = .int .i64 k ∧ Below wo.heap.size wo wr) (fun i _ => L.length - (intOf i).toNat)
      case atStart => exact ⟨0, Nat.zero_le _, rfl, Below.refl _ _⟩
      case round =>
        obtain ⟨k, hk, rfl, hd⟩ := hrel
        obtain ⟨uo, rfl⟩ : ∃ x : World, x = wr := ⟨_, rfl⟩
        have hz := hd.size
        have hm := hm.below hd (by omega)
        have hs := hs.below hd (by omega)
        have A := A.below hd (by omega)
        have BB := BB.trans (hd.mono (by omega))
        by_cases hlt : k < L.length
        · skip
          obtain ⟨b, o, a3, c3, r, ha, _, hbh, hcell, hr, hx⟩ := A.rii.at hlt
          have hidx := idxII ha hlt Ac
          have hrw := HROW.out r (List.mem_of_getElem? hx.out)
          have HIPR := Lib.hid hrw.2.1; have HSET := Lib.hid hrw.2.2
          have HRL := Lib.hid (okW_len hrw.1)
          have hrl : r.length ≤ 5 := by have := HRW.out r (List.mem_of_getElem? hx.out); omega
          clear hrw ha hx
          go_wp2
          go_loopw [12, 13] (fun i _ wr => ∃ f : Nat, f ≤ m.length ∧ i = .int .i64 f ∧ Below uo.heap.size uo wr) (fun i _ _ => m.length - (intOf i).toNat)
          case atStart => exact ⟨0, Nat.zero_le _, rfl, Below.refl _ _⟩
          case round =>
            obtain ⟨f, hf, rfl, hd2⟩ := hrel
            have hz2 := hd2.size
            have hcellr : wr.cell? ⟨b, o + k, none⟩ = some (.slice a3 r.length c3) := (hd2.cell (p := ⟨b, o + k, none⟩) (by show b < _; omega)).trans hcell
            have hr := hr.below hd2 (by omega)
            have hm := hm.below hd2 (by omega)
            have hs := hs.below hd2 (by omega)
            clear hcell
            by_cases hlt2 : f < m.length
            · skip
              have hfr : f < r.length := by have := HRL.out; omega
              obtain ⟨b4, o4, u, ha4, _, hb4, hc4, hu⟩ := hr.at hfr
              have hidr := idxI ha4 hfr c3
              have HAT : Hid (at5 r f = u) := at5_of hu.out
              clear hu
              have hstr := OwnL.made wr wr.heap.size (Nat.le_refl _)
              have hbA := (Below.refl wr.heap.size wr).alloc (Nat.le_refl _) (.cells #[] 3)
              have hrA := hr.below hbA (by omega)
              have hblt : b < wr.heap.size := by omega
              clear hbA ha4
              by_cases hany : u = -1
              case pos =>
                have hn1 : (u != -1) = false := by rw [hany]; rfl
                have hn2 : (u == -1) = true := by rw [hany]; rfl
                have hn3 : decide (u = -1) = true := by rw [hany]; rfl
                clear hany
                go_wp2_with (at_builtin; refine wpList_appA rfl (.tmp 92) (.tmp 96) rfl wr.heap.size _ [] rfl hstr r _ _ c3 a3 rfl hrA (by simp) (by omega) (by simp) ?_; intro v6 w6 hown6 hb6; have hb06 := chain1 hb6; simp only [List.nil_append] at hown6; obtain ⟨qa, qc, rfl, hoi⟩ := hown6.slice; have hoo := hoi.oi; obtain ⟨qb, qo, rfl, hq1, hq2, ⟨qy, hqy, hqc⟩, hqf⟩ := hoo f hfr; have hidq := idxI (b := qb) (o := qo) rfl hfr qc; have hcell7 := ((bset (p := ⟨qb, qo + f, none⟩) (v := .int .i64 (-1)) hb06 hq1).cell (p := ⟨b, o + k, none⟩) (by show b < _; omega)).trans hcellr; have hcr7 := ((bset (p := ⟨qb, qo + f, none⟩) (v := .int .i64 (-1)) hb06 hq1).cell (p := ⟨b4, o4 + f, none⟩) (by show b4 < _; omega)).trans hc4; clear hown6 hb6 hoi hstr hrA)
                have hb07 := bset (p := ⟨qb, qo + f, none⟩) (v := .int .i64 (-1)) hb06 hq1
                have hd7 := hd2.trans (hb07.mono hz2)
                go_roundw
                case rel => exact ⟨f + 1, by omega, by go_num, hd7⟩
                case measure => simp [intOf]; omega
              have hn1 : (u != -1) = true := by simpa using hany
              have hn2 : (u == -1) = false := by simpa using hany
              have hn3 : decide (u = -1) = false := by simpa using hany
              have HNE := Lib.hid hany
              clear hany
              go_wp2_with (at_builtin; refine wpList_appA rfl (.tmp 92) (.tmp 96) rfl wr.heap.size _ [] rfl hstr r _ _ c3 a3 rfl hrA (by simp) (by omega) (by simp) ?_; intro v6 w6 hown6 hb6; have hb06 := chain1 hb6; simp only [List.nil_append] at hown6; obtain ⟨qa, qc, rfl, hoi⟩ := hown6.slice; have hoo := hoi.oi; obtain ⟨qb, qo, rfl, hq1, hq2, ⟨qy, hqy, hqc⟩, hqf⟩ := hoo f hfr; have hidq := idxI (b := qb) (o := qo) rfl hfr qc; have hcell7 := ((bset (p := ⟨qb, qo + f, none⟩) (v := .int .i64 (-1)) hb06 hq1).cell (p := ⟨b, o + k, none⟩) (by show b < _; omega)).trans hcellr; have hcr7 := ((bset (p := ⟨qb, qo + f, none⟩) (v := .int .i64 (-1)) hb06 hq1).cell (p := ⟨b4, o4 + f, none⟩) (by show b4 < _; omega)).trans hc4; clear hown6 hb6 hoi hstr hrA)
              have hO2 := hoo.set hfr (-1)
              have hb07 := bset (p := ⟨qb, qo + f, none⟩) (v := .int .i64 (-1)) hb06 hq1
              have hs67 := bset_size (w1 := w6) (p := ⟨qb, qo + f, none⟩) (v := .int .i64 (-1))
              have hs06 := hb06.size
              obtain ⟨w7, hw7⟩ : ∃ x, w6.setCell ⟨qb, qo + f, none⟩ (.int .i64 (-1)) = x := ⟨_, rfl⟩
              rw [hw7] at hO2 hb07 hs67 hcell7 hcr7
              rw [hw7]
              obtain ⟨l, hl⟩ : ∃ l, r.set f (-1) = l := ⟨_, rfl⟩
              have hll : l.length = r.length := by rw [← hl]; simp
              have HIP : Hid (ipB m s l = true) := by show _ = _; rw [← hl]; exact HSET.out f hlt2 (by rw [HAT.out]; exact HNE.out)
              rw [hl] at hO2
              have hm := hm.below hb07 (by omega)
              have hs := hs.below hb07 (by omega)
              have hd7 := hd2.trans (hb07.mono hz2)
              have HC := i_IsPossible (c := c1) (c1 := c2) (c3 := qc) hm (by omega) hs.rii (by omega) HSG.out hO2.ri (by omega) (by omega) (by omega) (by omega)
              rw [hll] at HC
              have HC := Lib.hid HC
              clear hl hO2 hb07 hb06 hoo hll hw7 hidq hqc hqy hqf
              refine HC.out.mono ?_
              rintro e v8 ⟨rfl, b8⟩
              rw [HIP.out]
              have hd8 := hd7.trans (b8.mono (by omega))
              clear b8 hd7 hd2 HC
              go_wp2
              go_roundw
              case rel => exact ⟨f + 1, by omega, by go_num, hd8⟩
              case measure => simp [intOf]; omega
            · skip
              go_wp2_with fail
              refine (i_IsPossible hm (by omega) hs.rii (by omega) HSG.out hr (by omega) (by omega) (by omega) (by omega)).mono ?_
              rintro e v8 ⟨rfl, b8⟩
              rw [HIPR.out]
              have hd8 := (hd.trans (hd2.mono (by omega))).trans (b8.mono (by omega))
              go_wp2
              go_roundw
              case rel => exact ⟨k + 1, by omega, by go_num, hd8⟩
              case measure => simp [intOf]; omega
        · skip
          go_wp2
          go_ret
          exact ⟨rfl, BB⟩

end Go.Proofs.Ytekkhadlchfjnaa
