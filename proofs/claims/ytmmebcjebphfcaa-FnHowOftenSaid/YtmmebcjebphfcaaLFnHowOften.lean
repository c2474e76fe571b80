/- The walk of FnHowOften: it returns true and writes nothing that was there. -/
import Derived.Test.YtmmebcjebphfcaaRo
namespace Go.Proofs.Ytmmebcjebphfcaa
open Go.RowKit

/-- how many tests of the suite match the pattern with the levels below k for its factor f, one by one -/
def sumQ (s : List (List Int)) (p : List Int) (f k : Nat) : Nat := ((List.range k).map fun (y : Nat) => s.countP fun r => mB (p.set f (y : Int)) r).sum
theorem sumQ_zero (s : List (List Int)) (p : List Int) (f : Nat) : sumQ s p f 0 = 0 := rfl
theorem sumQ_succ (s : List (List Int)) (p : List Int) (f k : Nat) : sumQ s p f (k + 1) = sumQ s p f k + s.countP fun r => mB (p.set f (k : Int)) r := by
  unfold sumQ; rw [List.range_succ, List.map_append, List.sum_append]; simp
theorem mB_set {p r : List Int} {f : Nat} {z : Int} (hl : p.length = r.length) (hp : p[f]? = some (-1)) (hr : r[f]? = some z) (y : Nat) : mB (p.set f (y : Int)) r = (mB p r && decide ((y : Int) = z)) := by
  unfold mB
  induction p generalizing r f with
  | nil => simp at hp
  | cons a p ih => cases r with
    | nil => simp at hl
    | cons b r => cases f with
      | zero =>
        simp at hp hr
        subst hp hr
        have h1 : ((y : Int) == -1) = false := by rw [beq_eq_false_iff_ne]; omega
        simp only [List.set_cons_zero, List.zip_cons_cons, List.all_cons, h1]
        cases (p.zip r).all fun x => x.1 == -1 || x.1 == x.2 <;> simp
        by_cases h : (y : Int) = b <;> simp [h]
      | succ f =>
        simp at hp hr
        have := ih (r := r) (f := f) (by simpa using hl) hp hr
        simp only [List.set_cons_succ, List.zip_cons_cons, List.all_cons, this, Bool.and_assoc]
theorem sum_one (z : Nat) (v : Nat) : ∀ k : Nat, ((List.range k).map fun (y : Nat) => if y = z then v else 0).sum = if z < k then v else 0
  | 0 => by simp
  | k + 1 => by
    rw [List.range_succ, List.map_append, List.sum_append, sum_one z v k]
    simp only [List.map_cons, List.map_nil, List.sum_cons, List.sum_nil]
    by_cases h : k = z
    · rw [if_neg (by omega), if_pos h, if_pos (by omega)]; omega
    · rw [if_neg h]
      by_cases h2 : z < k
      · rw [if_pos h2, if_pos (by omega)]; omega
      · rw [if_neg h2, if_neg (by omega)]; rfl
theorem sum_zero : ∀ l : List Nat, (l.map fun _ => 0).sum = 0
  | [] => rfl
  | x :: l => by simp only [List.map_cons, List.sum_cons, sum_zero l]
theorem sum_add (f g : Nat → Nat) : ∀ l : List Nat, (l.map fun y => f y + g y).sum = (l.map f).sum + (l.map g).sum
  | [] => rfl
  | x :: l => by simp only [List.map_cons, List.sum_cons, sum_add f g l]; omega
theorem sumQ_all {p : List Int} {f : Nat} {mf : Nat} (hp : p[f]? = some (-1)) : ∀ (s : List (List Int)), (∀ r ∈ s, p.length = r.length ∧ ∃ z : Nat, r[f]? = some (z : Int) ∧ z < mf) → sumQ s p f mf = s.countP fun r => mB p r
  | [], _ => by
    unfold sumQ
    simp only [List.countP_nil]
    exact sum_zero _
  | r :: s, h => by
    have ih := sumQ_all hp s fun q hq => h q (List.mem_cons_of_mem _ hq)
    obtain ⟨hl, z, hz, hzm⟩ := h r (List.mem_cons_self ..)
    rw [List.countP_cons, ← ih]
    unfold sumQ
    have h1 : (fun (y : Nat) => (r :: s).countP fun r => mB (p.set f (y : Int)) r) = fun (y : Nat) => (s.countP fun r => mB (p.set f (y : Int)) r) + if y = z then (if mB p r = true then 1 else 0) else 0 := by
      funext y
      rw [List.countP_cons, mB_set hl hp hz y]
      by_cases hyz : y = z
      · subst hyz; simp
      · rw [if_neg hyz, show decide ((y : Int) = (z : Int)) = false from by simp; omega]; simp
    rw [h1, sum_add, sum_one, if_pos hzm]
theorem okP_set {m p : List Int} {f mf y : Nat} (h : okP m p = true) (hm : m[f]? = some (mf : Int)) (hy : y < mf) : okP m (p.set f (y : Int)) = true := by
  have h1 := okW_len h
  unfold okP okW
  rw [Bool.and_eq_true, decide_eq_true_eq, List.all_eq_true]
  refine ⟨by simpa using h1, fun z hz => ?_⟩
  obtain ⟨k, hk⟩ := List.getElem?_of_mem hz
  rw [List.getElem?_zip_eq_some] at hk
  by_cases hkf : k = f
  · subst hkf
    have hkl := lt_of_at hk.1
    rw [List.getElem?_set_self (by simpa using hkl)] at hk
    rw [hm] at hk
    have h3 := Option.some.inj hk.1
    have h4 := Option.some.inj hk.2
    rw [← h3, ← h4]
    exact inR_true.2 (by omega)
  · rw [List.getElem?_set_ne (by omega)] at hk
    have h7 := okW_at h hk.1 hk.2
    exact inR_true.2 (by omega)
theorem ho_rows {m p : List Int} {s : List (List Int)} {f mf : Nat} (hs : okS m s = true) (hp : okP m p = true) (hm : m[f]? = some (mf : Int)) : ∀ r ∈ s, p.length = r.length ∧ ∃ z : Nat, r[f]? = some (z : Int) ∧ z < mf := by
  intro r hr
  have h1 := okS_all hs hr
  have h2 := okW_len h1
  have h3 := okW_len hp
  refine ⟨by omega, ?_⟩
  obtain ⟨z, hz⟩ := at_of_lt (show f < r.length by have := lt_of_at hm; omega)
  have h4 := okW_at h1 hz hm
  obtain ⟨q, rfl⟩ := Int.eq_ofNat_of_zero_le (show 0 ≤ z by omega)
  exact ⟨q, hz, by omega⟩
theorem bset {B : Nat} {w w1 : World} {p : Addr} {v : Value} (h : Below B w w1) (hp : B ≤ p.block) : Below B w (w1.setCell p v) :=
  ⟨h.os, h.tape, h.output, by simp [World.setCell]; exact h.size, fun k hk => (Below.heap_setCell _ _ _ _ (by omega)).trans (h.block k hk)⟩
theorem bset_size {w1 : World} {p : Addr} {v : Value} : w1.heap.size ≤ (w1.setCell p v).heap.size ∧ (w1.setCell p v).heap.size ≤ w1.heap.size := by simp [World.setCell]

set_option maxRecDepth 100000 in
set_option maxHeartbeats 2000000 in
theorem law_FnHowOften {m0 : Nat} {a0 : Option Addr} {c0 : Nat} {w : World} (f0 : RB w w.heap.size a0 m0) (l0 : m0 ≤ c0) :
    Calls Try.prog 13 #[.slice a0 m0 c0] w (Tru w) := by
  by_cases hb : m0 ≤ 1048576
  case neg =>
    go_enter Try.func13, Try.ntmps13
    go_wp2
    go_ret
    exact ⟨rfl, Below.refl _ _⟩
  go_enter Try.func13, Try.ntmps13
  go_wp2_with fail
  refine (s_DrawHowOften f0 l0 hb).mono ?_
  rintro e w1 ⟨a1, c1, m, a2, c2, s, a3, c3, p, rfl, ⟨hG, hS, hP⟩, B1⟩
  have z1 := B1.size
  have hp := hP.ri
  have hpl := hP.lp.1
  have pcap := hP.cap
  clear hP
  have hm := hG.ri
  have hs := hS.ric
  have hl10 := hG.lp.1
  have hsl := hS.sq.1
  have scap := hS.ric.cap
  have HSR : Hid (∀ r ∈ s, r.length ≤ 12) := fun r h => (hS.sq.2 r h).1
  have HSG : Hid (∀ r ∈ s, r.length ≤ 9223372036854775807) := fun r h => by have := (hS.sq.2 r h).1; omega
  clear hG hS
  clear f0
  by_cases hok : okM m = true ∧ okS m s = true ∧ okP m p = true
  case neg =>
    have HV : Hid (hoV m s p = -1) := hoV_no (by cases h1 : okM m <;> cases h2 : okS m s <;> cases h3 : okP m p <;> simp_all)
    clear hok
    go_wp2_with fail
    refine (i_HowOften hm (by omega) hs.rii (by omega) HSG.out hp (by omega) (by omega) (by omega)).mono ?_
    rintro e w2 ⟨rfl, b2⟩
    have z2 := b2.size
    have hm := hm.below b2 (by omega)
    have hs := hs.below b2 (by omega)
    have hp := hp.below b2 (by omega)
    have B2 := B1.trans (b2.mono (by omega))
    clear b2 B1
    rw [HV.out]
    go_wp2_with fail
    refine (s_HowOften hm (by omega) hs.rii (by omega) HSG.out hp (by omega)).mono ?_
    rintro e w3 ⟨rfl, d3⟩
    have b3 := Dr.below d3 w2.heap.size
    have z3 := Dr.le d3
    clear d3
    have hm := hm.below b3 (by omega)
    have hs := hs.below b3 (by omega)
    have hp := hp.below b3 (by omega)
    have B3 := B2.trans (b3.mono (by omega))
    clear b3 B2
    rw [HV.out]
    go_wp2_with fail
    refine (s_HowOften hm (by omega) hs.rii (by omega) HSG.out hp (by omega)).mono ?_
    rintro e w4 ⟨rfl, d4⟩
    have b4 := Dr.below d4 w3.heap.size
    have z4 := Dr.le d4
    clear d4
    have hm := hm.below b4 (by omega)
    have hs := hs.below b4 (by omega)
    have hp := hp.below b4 (by omega)
    have B4 := B3.trans (b4.mono (by omega))
    clear b4 B3
    rw [HV.out]
    go_wp2
    go_ret
    exact ⟨rfl, B4⟩
  obtain ⟨n, hn⟩ : ∃ n, (s.countP fun r => mB p r) = n := ⟨_, rfl⟩
  have HV : Hid (hoV m s p = (n : Int)) := by show _ = _; rw [hoV_yes hok.1 hok.2.1 hok.2.2, hn]
  have hns : n ≤ s.length := by rw [← hn]; exact List.countP_le_length
  have HN := Lib.hid hn
  have HOK := Lib.hid hok.1
  have HOS := Lib.hid hok.2.1
  have HOP := Lib.hid hok.2.2
  have hm5 := okM_len hok.1
  have HPL := Lib.hid (okW_len hok.2.2)
  clear hn hok
  have hne : ((n : Int) != (n : Int)) = false := bne_self_eq_false _
  have hn0 : ¬ (n : Int) < 0 := by omega
  have hdn : decide ((n : Int) < 0) = false := by simp
  go_wp2_with fail
  refine (i_HowOften hm (by omega) hs.rii (by omega) HSG.out hp (by omega) (by omega) (by omega)).mono ?_
  rintro e w2 ⟨rfl, b2⟩
  have z2 := b2.size
  have hm := hm.below b2 (by omega)
  have hs := hs.below b2 (by omega)
  have hp := hp.below b2 (by omega)
  have B2 := B1.trans (b2.mono (by omega))
  clear b2 B1
  rw [HV.out]
  go_wp2_with fail
  refine (s_HowOften hm (by omega) hs.rii (by omega) HSG.out hp (by omega)).mono ?_
  rintro e w3 ⟨rfl, d3⟩
  have b3 := Dr.below d3 w2.heap.size
  have z3 := Dr.le d3
  clear d3
  have hm := hm.below b3 (by omega)
  have hs := hs.below b3 (by omega)
  have hp := hp.below b3 (by omega)
  have B3 := B2.trans (b3.mono (by omega))
  clear b3 B2
  rw [HV.out]
  go_wp2
  go_loopw [7, 8, 9, 10] (fun i _ _ _ wr => ∃ k : Nat, k ≤ m.length ∧ i = .int .i64 k ∧ Below w3.heap.size w3 wr) (fun i _ _ _ _ => m.length - (intOf i).toNat)
  case atStart => exact ⟨0, Nat.zero_le _, rfl, Below.refl _ _⟩
  case round =>
    obtain ⟨f, hk, rfl, hd⟩ := hrel
    by_cases hlt : f < m.length
    · skip
      have hfp : f < p.length := by have := HPL.out; omega
      obtain ⟨x, hx⟩ := at_of_lt hlt
      have hx4 := okM_at HOK.out hx
      obtain ⟨mf, rfl⟩ := Int.eq_ofNat_of_zero_le (show 0 ≤ x by omega)
      obtain ⟨pf, hpf⟩ := at_of_lt hfp
      have HMF := Lib.hid hx
      have HPF := Lib.hid hpf
      clear hx hpf
      go_wp2
      go_loopw [8, 9, 10] (fun v i _ wr => ∃ y q : Nat, y ≤ mf ∧ i = .int .i64 y ∧ v = .int .i64 q ∧ q ≤ 24 * y ∧ Hid (q = sumQ s p f y) ∧ Below w3.heap.size w3 wr) (fun _ i _ _ => mf - (intOf i).toNat)
      case atStart => exact ⟨0, 0, Nat.zero_le _, rfl, rfl, Nat.le_refl _, rfl, hd⟩
      case round =>
        obtain ⟨y, q, hy, rfl, rfl, hq24, hqs, hd2⟩ := hrel
        clear hd
        have hz := hd2.size
        have hm := hm.below hd2 (by omega)
        have hp := hp.below hd2 (by omega)
        have hs := hs.below hd2 (by omega)
        obtain ⟨bm, om, u, ham, _, _, hcm, hum⟩ := hm.at hlt
        have hidm := idxI ham hlt c1
        obtain rfl : u = (mf : Int) := by have h9 := hum.out; rw [HMF.out] at h9; exact (Option.some.inj h9).symm
        clear hum
        by_cases hlt2 : y < mf
        · skip
          have hstr := OwnL.made wr wr.heap.size (Nat.le_refl _)
          have hbA := (Below.refl wr.heap.size wr).alloc (Nat.le_refl _) (.cells #[] 3)
          have hpA := hp.below hbA (by omega)
          clear hbA ham
          go_wp2_with (at_builtin; refine wpList_appA rfl (.tmp 54) (.tmp 55) rfl wr.heap.size _ [] rfl hstr p _ _ c3 a3 rfl hpA (by simp) (by omega) (by simp) ?_; intro v6 w6 hown6 hb6; have hb06 := chain1 hb6; simp only [List.nil_append] at hown6; obtain ⟨qa, qc, rfl, hoi⟩ := hown6.slice; have hoo := hoi.oi; obtain ⟨qb, qo, rfl, hq1, hq2, ⟨qy, hqy, hqc⟩, hqf⟩ := hoo f hfp; have hidq := idxI (b := qb) (o := qo) rfl hfp qc; clear hown6 hb6 hoi hstr hpA)
          have hO2 := hoo.set hfp (y : Int)
          have hb07 := bset (p := ⟨qb, qo + f, none⟩) (v := .int .i64 (y : Int)) hb06 hq1
          have hs67 := bset_size (w1 := w6) (p := ⟨qb, qo + f, none⟩) (v := .int .i64 (y : Int))
          have hs06 := hb06.size
          obtain ⟨w7, hw7⟩ : ∃ x, w6.setCell ⟨qb, qo + f, none⟩ (.int .i64 (y : Int)) = x := ⟨_, rfl⟩
          rw [hw7] at hO2 hb07 hs67
          rw [hw7]
          obtain ⟨l, hl⟩ : ∃ l, p.set f (y : Int) = l := ⟨_, rfl⟩
          have hll : l.length = p.length := by rw [← hl]; simp
          obtain ⟨cy, hcy⟩ : ∃ x, (s.countP fun r => mB l r) = x := ⟨_, rfl⟩
          have HV8 : Hid (hoV m s l = (cy : Int)) := by show _ = _; rw [hoV_yes HOK.out HOS.out (by rw [← hl]; exact okP_set HOP.out HMF.out hlt2), hcy]
          have hcyl : cy ≤ s.length := by rw [← hcy]; exact List.countP_le_length
          have HQ2 : Hid (q + cy = sumQ s p f (y + 1)) := by show _ = _; rw [sumQ_succ, ← hqs.out, hl, hcy]
          rw [hl] at hO2
          have hm := hm.below hb07 (by omega)
          have hs := hs.below hb07 (by omega)
          have hd7 := hd2.trans (hb07.mono hz)
          have HC := i_HowOften (c := c1) (c' := c2) (c'' := qc) hm (by omega) hs.rii (by omega) HSG.out hO2.ri (by omega) (by omega) (by omega)
          rw [hll] at HC
          have HC := Lib.hid HC
          clear hl hcy hqs hO2 hb07 hb06 hoo hll hw7 hidq hidm hqc hqy hqf hcm
          refine HC.out.mono ?_
          rintro e v8 ⟨rfl, b8⟩
          rw [HV8.out]
          have hd8 := hd7.trans (b8.mono (by omega))
          clear b8 hd7 hd2 HC
          go_wp2
          go_roundw
          case rel => exact ⟨y + 1, q + cy, by omega, by go_num, by go_num, by omega, HQ2, hd8⟩
          case measure => simp [intOf]; omega
        · skip
          obtain ⟨bp, op, u2, hap, _, _, hcp, hup⟩ := hp.at hfp
          have hidp := idxI hap hfp c3
          obtain rfl : u2 = pf := by have h9 := hup.out; rw [HPF.out] at h9; exact (Option.some.inj h9).symm
          clear hap hup ham
          by_cases hany : u2 = -1
          · have HE : Hid (q = n) := by show _ = _; rw [hqs.out, show y = mf from by omega, ← HN.out]; exact sumQ_all (by rw [HPF.out, hany]) s (ho_rows HOS.out HOP.out HMF.out)
            rw [HE.out]
            have hc1 : (u2 == -1) = true := by rw [beq_iff_eq]; exact hany
            clear hany HE hqs hq24
            go_wp2
            go_roundw
            case rel => exact ⟨f + 1, by omega, by go_num, hd2⟩
            case measure => simp [intOf]; omega
          · have hc1 : (u2 == -1) = false := by rw [beq_eq_false_iff_ne]; exact hany
            clear hany hqs hq24
            go_wp2
            go_roundw
            case rel => exact ⟨f + 1, by omega, by go_num, hd2⟩
            case measure => simp [intOf]; omega
    · skip
      have hle : (n : Int) ≤ (s.length : Int) := by omega
      go_wp2
      go_ret
      exact ⟨by simp, B3.trans (hd.mono (by omega))⟩

end Go.Proofs.Ytmmebcjebphfcaa
