/- Walks: HuntFault, by the model. -/
import Derived.Test.YtehoagbpgahopaaTd
import Derived.Test.YtehoagbpgahopaaTb
import Derived.Test.YtehoagbpgahopaaOc
import Derived.Test.YtehoagbpgahopaaYh
namespace Go.Proofs.Ytehoagbpgahopaa
open Go.RowKit

/-- lists that may be shared, and a number -/
def GotIIz (w : World) (mm : List (List Int)) (z : Int) (e : Ending) (w' : World) : Prop :=
  ∃ a c, e = .returned (.tuple #[.slice a mm.length c, .int .i64 z]) ∧ RIIc w' w.heap.size w'.heap.size a c mm ∧ Below w.heap.size w w'
theorem GotIIz.none {w w' : World} {l : List (List Int)} {z : Int} (h : l = []) (hz : z = -1) (hb : Below w.heap.size w w') : GotIIz w l z (.returned (.tuple #[.slice none 0 0, .int .i64 (-1)])) w' := by
  subst h hz
  exact ⟨_, _, rfl, RIIc.nil _ _ _ _ _, hb⟩
theorem huS_no {m f : List Int} (h : huB m f = false) : huL m f = [] ∧ huN m f = -1 := by unfold huL huN; rw [h]; exact ⟨rfl, rfl⟩
theorem huS_yes {m f : List Int} (h : huB m f = true) : huL m f = (huR m f).1 ∧ huN m f = ((huR m f).2 : Int) := by unfold huL huN; rw [h]; exact ⟨rfl, rfl⟩
theorem huK_step {f x : List Int} {left : List (List Int)} {k : Nat} {r : List Int} (hx : left[k]? = some r) (h : (mB r x == mB f x) = true) : huK f x (left.take (k + 1)) = huK f x (left.take k) ++ [r] := by
  unfold huK; rw [take_snoc hx, List.filter_append]; simp [h]
theorem huK_skip {f x : List Int} {left : List (List Int)} {k : Nat} {r : List Int} (hx : left[k]? = some r) (h : (mB r x == mB f x) = false) : huK f x (left.take (k + 1)) = huK f x (left.take k) := by
  unfold huK; rw [take_snoc hx, List.filter_append]; simp [h]

set_option maxRecDepth 100000 in
set_option maxHeartbeats 8000000 in
theorem s_HuntFault {m f : List Int} {a a1 : Option Addr} {c c1 lo hi lo1 hi1 : Nat} {w : World} (hm : RI w lo hi a m) (hlm : m.length ≤ 9223372036854775807) (hf : RI w lo1 hi1 a1 f) (hlf : f.length ≤ 9223372036854775807) (hB : hi ≤ w.heap.size) (hB1 : hi1 ≤ w.heap.size) :
    Calls Try.prog 116 #[.slice a m.length c, .slice a1 f.length c1] w (GotIIz w (huL m f) (huN m f)) := by
  cases hok : okM m
  · have HE := Lib.hid (huS_no (show huB m f = false by unfold huB; rw [hok]; rfl))
    have HOK := Lib.hid hok; clear hok
    go_enter Try.func116, Try.ntmps116
    go_wp2_with fail
    refine (s_validModel hm hlm).mono ?_
    rintro e w1 ⟨rfl, d1⟩
    rw [HOK.out]
    go_wp2
    go_ret2
    exact GotIIz.none HE.out.1 HE.out.2 (Dr.below d1 _)
  cases hop : okP m f
  · have HE := Lib.hid (huS_no (show huB m f = false by unfold huB; rw [hop, Bool.and_false]))
    have HOK := Lib.hid hok; clear hok
    have HOP := Lib.hid hop; clear hop
    go_enter Try.func116, Try.ntmps116
    go_wp2_with fail
    refine (s_validModel hm hlm).mono ?_
    rintro e w1 ⟨rfl, d1⟩
    rw [HOK.out]
    go_wp2_with fail
    refine (s_validPattern (hm.dr d1) (hf.dr d1) HOK.out hlf).mono ?_
    rintro e w2 ⟨rfl, d2⟩
    rw [HOP.out]
    go_wp2
    go_ret2
    exact GotIIz.none HE.out.1 HE.out.2 (Dr.below (Dr.trans d1 d2) _)
  have HE := Lib.hid (huS_yes (show huB m f = true by unfold huB; rw [hok, hop]; rfl))
  have HOK := Lib.hid hok
  have HOP := Lib.hid hop
  have hm5 := okM_len hok
  have hfl : f.length = m.length := okW_len hop
  have HFL := Lib.hid hfl
  have hsl : strN f ≤ m.length := by rw [← hfl]; exact List.countP_le_length
  have HPL := Lib.hid (patS_len (head := []) HOK.out (strN f))
  have HPR := Lib.hid (patS_row (m := m) (t := strN f))
  have hfl5 : f.length ≤ 5 := by omega
  clear hok hop hfl
  go_enter Try.func116, Try.ntmps116
  go_wp2_with fail
  refine (s_validModel hm hlm).mono ?_
  rintro e w1 ⟨rfl, d1⟩
  rw [HOK.out]
  go_wp2_with fail
  refine (s_validPattern (hm.dr d1) (hf.dr d1) HOK.out hlf).mono ?_
  rintro e w2 ⟨rfl, d2⟩
  rw [HOP.out]
  have D2 : Dr w w2 := Dr.trans d1 d2
  have z2 := Dr.le D2
  have hbA := (Below.refl w2.heap.size w2).alloc (Nat.le_refl _) (.cells #[] 3)
  have hf3 := (hf.dr D2).below hbA (by omega)
  clear d1 d2
  go_wp2_with fail
  refine (s_strength hf3 (by omega)).mono ?_
  rintro e w3 ⟨rfl, d3⟩
  have d3 : Dr (w2.alloc (.cells #[] 3)) w3 := d3
  have z3 := Dr.le d3
  simp only [World.size_alloc] at z3
  have hbW3 : Below w.heap.size w w3 := (Dr.below D2 _).trans ((hbA.trans (Dr.below d3 _)).mono (by omega))
  have hm3 := hm.below hbW3 hB
  clear hf3 D2 hbA
  go_wp2_with fail
  refine (s_patterns HOK.out m.length [] a ⟨w2.heap.size, 0, none⟩ c 0 lo hi 0 0 _ (strN f) (by simp) hm3 (by omega) (RI.nil _ _ _ _) (by simp) (by omega) (by omega)).mono ?_
  rintro e w4 ⟨ad4, c4, rfl, h4, hb4⟩
  have hz4 := hb4.size
  have hbW4 : Below w.heap.size w w4 := hbW3.trans (hb4.mono (by omega))
  have hL4 : RIIc w4 w.heap.size w4.heap.size (some ad4) c4 (patS m [] (strN f)) := ⟨h4.rii.wide (by omega) (Nat.le_refl _), h4.cap⟩
  obtain ⟨ps, hps⟩ : ∃ ps, patS m [] (strN f) = ps := ⟨_, rfl⟩
  have HR0 : Hid (huG m f 1024 ps 0 = huR m f) := by show _ = _; rw [← hps]; rfl
  rw [hps] at hL4 HPL HPR ⊢
  have hpl := HPL.out
  clear h4 hb4 hps hm3 d3 hbW3
  go_wp2
  go_loopw [6, 7] (fun vl vn wr => ∃ (al : Option Addr) (cl : Nat) (left : List (List Int)) (n : Nat), vl = .slice al left.length cl ∧ vn = .int .i64 n ∧ RIIc wr w.heap.size wr.heap.size al cl left ∧ Below w.heap.size w wr ∧ left.length ≤ 1024 ∧ n + left.length ≤ 1024 ∧
    Hid ((∃ k, left.length ≤ k ∧ huG m f k left n = huR m f) ∧ ∀ p ∈ left, p.length = m.length)) (fun vl _ _ => lenV vl)
  case atStart => exact ⟨some ad4, c4, ps, 0, rfl, rfl, hL4, hbW4, hpl, by omega, ⟨1024, hpl, HR0.out⟩, HPR.out⟩
  case round =>
    clear hL4 hbW4 hpl HR0
    obtain ⟨al, cl, left, n, rfl, rfl, hL, hBl, hll, hnl, HI⟩ := hrel
    obtain ⟨wo, hwo⟩ : ∃ wo, wo = wr := ⟨_, rfl⟩
    subst hwo
    have hso := hBl.size
    have hmo := hm.below hBl hB
    have hfo := hf.below hBl hB1
    obtain ⟨x, hx⟩ : ∃ x, bsL m left = x := ⟨_, rfl⟩
    have HX := Lib.hid hx
    have HXL : Hid (x.length = m.length) := by show _ = _; rw [← hx]; exact bsL_len HOK.out
    have HBS := Lib.hid (s_bestSplit (c := c) (c' := cl) HOK.out hmo (by omega) hL.rii (Nat.le_refl _) (by omega) (fun p hp => Nat.le_of_eq (HI.out.2 p hp)))
    obtain ⟨L, hLn⟩ : ∃ L, left.length = L := ⟨_, rfl⟩
    have HLN := Lib.hid hLn
    rw [hx, hLn] at HBS
    rw [hLn] at hll hnl ⊢
    clear hx hLn hmo
    go_wp2_with fail
    refine HBS.out.mono ?_
    rintro e w5 ⟨a5, c5, rfl, hx5, hcx5, hb5⟩
    have hz5 := hb5.size
    have hL5 : RII w5 w.heap.size wo.heap.size al left := hL.rii.below hb5 (Nat.le_refl _)
    have hBl5 := hBl.trans (hb5.mono hso)
    have hun := unN_le left x
    have HLC := Lib.hid hL.cap
    have HU := s_uneven (c := cl) (c' := c5) HXL.out rfl hL5 hx5 (by rw [HLN.out]; omega) (by omega) (fun p hp => Nat.le_of_eq (HI.out.2 p hp))
    rw [HLN.out] at HU hun
    have HU := Lib.hid HU
    have HSPE : Hid (spB m left = decide (unN left x < L)) := by show _ = _; unfold spB; rw [HX.out, HLN.out]
    obtain ⟨q, hq⟩ : ∃ q, unN left x = q := ⟨_, rfl⟩
    rw [hq] at HU HSPE hun
    clear hq hL
    go_wp2_with fail
    refine HU.out.mono ?_
    rintro e w6 ⟨rfl, d6⟩
    have d6 : Dr w5 w6 := d6
    have hb6 := Dr.below d6 w5.heap.size
    have hz6 := Dr.le d6
    have hL6 := hL5.dr d6
    have hx6 := hx5.dr d6
    have hBl6 := hBl5.trans (hb6.mono (by omega))
    have hf6 := hfo.below ((hb5.trans (hb6.mono hz5))) (by omega)
    clear hL5 hx5 hBl5 hb6 d6 hfo HU HBS
    by_cases hqL : q = L
    · have HR : Hid (huR m f = (left, n)) := by
        obtain ⟨k, _, hk⟩ := HI.out.1
        show _ = _
        rw [← hk, huG_stop (by rw [HSPE.out, decide_eq_false (by omega)])]
      have hqb : ((q : Int) == (L : Int)) = true := by rw [beq_iff_eq]; omega
      go_wp2
      go_ret2
      rw [HE.out.1, HE.out.2, HR.out]
      exact ⟨al, cl, by rw [HLN.out]; rfl, ⟨hL6.wide (Nat.le_refl _) (by omega), HLC.out⟩, hBl6⟩
    · have HSP : Hid (spB m left = true) := by show _ = _; rw [HSPE.out, decide_eq_true (by omega)]
      have hqb : ((q : Int) == (L : Int)) = false := by rw [beq_eq_false_iff_ne]; omega
      have hKL : (huK f x left).length < left.length := by rw [← HX.out]; exact huK_lt HSP.out
      rw [HLN.out] at hKL
      have hst := OwnRR.made w6 w6.heap.size w.heap.size w6.heap.size (Nat.le_refl _) (.inr (Nat.le_refl _))
      have hbst := (Below.refl w6.heap.size w6).alloc (Nat.le_refl _) (.cells #[] 23)
      have hL7 : RII w6 w.heap.size w6.heap.size al left := hL6.wide (Nat.le_refl _) (by omega)
      have hx7 : RI w6 w.heap.size w6.heap.size a5 x := hx6.wide (by omega) (by omega)
      clear hL6 hx6 hqL
      go_wp2
      go_loopw [9, 10] (fun vr i wr2 => ∃ k : Nat, k ≤ L ∧ i = .int .i64 k ∧ OwnRR wr2 w6.heap.size w.heap.size w6.heap.size vr (huK f x (left.take k)) ∧ Below w6.heap.size w6 wr2) (fun _ i _ => L - (intOf i).toNat)
      case atStart => exact ⟨0, Nat.zero_le _, rfl, by simpa [huK] using hst, hbst⟩
      case round =>
        clear hst hbst
        obtain ⟨k, hk, rfl, hown, hB4⟩ := hrel
        have hsz := hB4.size
        have hx8 := hx7.below hB4 (Nat.le_refl _)
        have hf8 := hf6.below hB4 (by omega)
        by_cases hlt : k < L
        · obtain ⟨b, o, a7, c7, r, ha, _, hbh, hcell, hr1, hxx, hcp⟩ := (hL7.below hB4 (Nat.le_refl _)).atc (show k < left.length by rw [HLN.out]; exact hlt)
          have hidx := idxII ha hlt cl
          have hrl := HI.out.2 r (List.mem_of_getElem? hxx.out)
          have hrlb : r.length ≤ m.length ∧ m.length ≤ r.length := by omega
          have hkl : (huK f x (left.take k)).length ≤ 1024 := Nat.le_trans (huK_le _ _ _) (by simp; omega)
          have hm1 := s_matchesN (c := c7) (c' := c5) HXL.out rfl hr1 hx8 (by omega) (by omega)
          have HM1 := Lib.hid hm1
          have HM2 : Hid (∀ w', Dr wr w' → Calls Try.prog 219 #[.slice a1 f.length c1, .slice a5 m.length c5] w' (RO w' (.bool (mB f x)))) := fun w' d => s_matchesN HXL.out rfl (hf8.dr d) (hx8.dr d) (by have := HFL.out; omega) (by omega)
          clear ha hrl hm1
          cases hc : (mB r x == mB f x)
          · have HM := Lib.hid (huK_skip hxx.out hc)
            obtain ⟨y1, hy1⟩ : ∃ y, mB r x = y := ⟨_, rfl⟩
            obtain ⟨y2, hy2⟩ : ∃ y, mB f x = y := ⟨_, rfl⟩
            rw [hy1] at hc HM1
            rw [hy2] at hc HM2
            clear hy1 hy2
            go_wp2_with fail
            refine HM1.out.mono ?_
            rintro e w9 ⟨rfl, d9⟩
            go_wp2_with fail
            refine (HM2.out _ d9).mono ?_
            rintro e w10 ⟨rfl, d10⟩
            have D10 := Dr.trans d9 d10
            have hown2 := hown.below (Dr.below D10 _) (by omega)
            rw [← HM.out] at hown2
            have hB7 := hB4.trans (Dr.below D10 _)
            clear hB4 hown
            go_wp2
            go_roundw
            case rel => exact ⟨k + 1, by omega, by go_num, hown2, hB7⟩
            case measure => simp [intOf]; omega
          · have HM := Lib.hid (huK_step hxx.out hc)
            obtain ⟨y1, hy1⟩ : ∃ y, mB r x = y := ⟨_, rfl⟩
            obtain ⟨y2, hy2⟩ : ∃ y, mB f x = y := ⟨_, rfl⟩
            rw [hy1] at hc HM1
            rw [hy2] at hc HM2
            clear hy1 hy2
            go_wp2_with fail
            refine HM1.out.mono ?_
            rintro e w9 ⟨rfl, d9⟩
            go_wp2_with fail
            refine (HM2.out _ d9).mono ?_
            rintro e w10 ⟨rfl, d10⟩
            have D10 := Dr.trans d9 d10
            have hz10 := Dr.le D10
            have hown2 := hown.below (Dr.below D10 _) (by omega)
            have hr2 := hr1.dr D10
            have hcell2 : w10.cell? ⟨b, o + k, none⟩ = _ := ((Dr.below D10 wr.heap.size).cell (p := ⟨b, o + k, none⟩) (by show b < _; omega)).trans hcell
            have hB6 := hB4.trans (Dr.below D10 _)
            clear hB4 hown hcell D10 d9 d10
            go_wp2_with (first
              | (at_builtin; refine wpList_appR1 rfl (.tmp 55) (.tmp 60) (by rfl) w6.heap.size w.heap.size w6.heap.size _ (huK f x (left.take k)) (by rfl) hown2 (by omega) (by omega) r a7 r.length c7 (by rfl) hr2 hcp w10.heap.size (by rfl) (by rfl) (by omega) ?_; intro v11 w11 hown11 hk11 _)
              | go_in)
            rw [← HM.out] at hown11
            have hB7 := hB6.trans (hk11.below (by omega))
            clear hk11 hown2 hB6
            go_roundw
            case rel => exact ⟨k + 1, by omega, by go_num, hown11, hB7⟩
            case measure => simp [intOf]; omega
        · have HKE : Hid (left.take k = left) := List.take_of_length_le (by have := HLN.out; omega)
          rw [HKE.out] at hown
          obtain ⟨a8, c8, rfl, hL8⟩ := hown.sliceU (by omega) (by omega)
          have hBl8 := hBl6.trans (hB4.mono (by omega))
          have HI8 : Hid ((∃ k, (huK f x left).length ≤ k ∧ huG m f k (huK f x left) (n + 1) = huR m f) ∧ ∀ p ∈ huK f x left, p.length = m.length) := by
            refine ⟨?_, fun p hp => HI.out.2 p (List.mem_filter.1 hp).1⟩
            obtain ⟨k, hk1, hk2⟩ := HI.out.1
            have := HLN.out
            cases k with
            | zero => omega
            | succ k => exact ⟨k, by omega, by rw [← hk2, huG_step HSP.out, HX.out]⟩
          clear hown hL7 hx7 hx8 hf6 hf8
          go_wp2
          go_roundw
          case rel => exact ⟨a8, c8, huK f x left, n + 1, rfl, by go_num, hL8, hBl8, by omega, by omega, HI8⟩
          case measure => simp [lenV]; omega

end Go.Proofs.Ytehoagbpgahopaa
