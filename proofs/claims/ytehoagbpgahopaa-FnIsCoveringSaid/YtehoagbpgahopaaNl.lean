/- Plain facts of LeastTests' loops. -/
import Derived.Test.YtehoagbpgahopaaTc
import Derived.Test.YtehoagbpgahopaaNh
import Derived.Test.YtehoagbpgahopaaWi
import Derived.Test.YtehoagbpgahopaaOy
namespace Go.Proofs.Ytehoagbpgahopaa
def prF (l : List Int) : Int := l.foldl (fun a x => a * x) 1
theorem prF_cons (x : Int) (l : List Int) : prF (x :: l) = x * prF l := by
  unfold prF; rw [List.foldl_cons, foldl_mul1, Int.one_mul]
theorem prF_snoc (l : List Int) (x : Int) : prF (l ++ [x]) = prF l * x := by unfold prF; rw [List.foldl_append]; rfl
theorem prF_take {l : List Int} {k : Nat} {x : Int} (h : l[k]? = some x) : prF (l.take (k + 1)) = prF (l.take k) * x := by
  rw [← prF_snoc, List.take_add_one, h]; rfl
theorem mul_ge1 {a x : Int} (ha : 1 ≤ a) (hx : 1 ≤ x) : 1 ≤ a * x := by
  have := Int.mul_le_mul ha hx (by omega) (by omega)
  omega
theorem mul_le3 {a b x : Int} (h0 : 1 ≤ a) (ha : a ≤ b) (hx : x ≤ 3) : a * x ≤ b * 3 := by
  have h1 := Int.mul_le_mul_of_nonneg_left hx (show 0 ≤ a by omega)
  omega
theorem prF_le : ∀ (l : List Int), (∀ x ∈ l, 1 ≤ x ∧ x ≤ 3) → 1 ≤ prF l ∧ prF l ≤ 3 ^ l.length
  | [], _ => by simp [prF]
  | x :: l, h => by
    have ih := prF_le l fun y hy => h y (by simp [hy])
    have hx := h x (by simp)
    rw [prF_cons, Int.mul_comm]
    refine ⟨mul_ge1 ih.1 hx.1, ?_⟩
    rw [List.length_cons, Int.pow_succ]
    exact mul_le3 ih.1 ih.2 hx.2
theorem pow3_le {n k : Nat} (h : n ≤ k) (hk : k ≤ 5) : (3 : Int) ^ n ≤ 243 := by
  have h5 : n ≤ 5 := by omega
  have : n = 0 ∨ n = 1 ∨ n = 2 ∨ n = 3 ∨ n = 4 ∨ n = 5 := by omega
  rcases this with rfl | rfl | rfl | rfl | rfl | rfl <;> decide
theorem lt_sorted1 {m S : List Int} {tn : Nat} (hm : okM m = true) (ht : tn ≤ m.length) (hp : S.Perm m) (hs : S.Pairwise (· ≤ ·)) : ltV m tn = prF (S.drop (m.length - tn)) := by
  rw [lt_yes hm (by omega) (by omega), Int.toNat_natCast, lt_sorted tn m S 1 hp hs ht, hp.length_eq, Int.one_mul]; rfl
theorem prF_mid {S : List Int} {q k : Nat} (h : ∀ x ∈ S, 1 ≤ x ∧ x ≤ 3) (hl : S.length ≤ 5) : 1 ≤ prF ((S.drop q).take k) ∧ prF ((S.drop q).take k) ≤ 243 := by
  have h1 := prF_le ((S.drop q).take k) fun x hx => h x (List.mem_of_mem_drop (List.mem_of_mem_take hx))
  refine ⟨h1.1, Int.le_trans h1.2 (pow3_le (k := 5) ?_ (Nat.le_refl _))⟩
  simp; omega
theorem okM_lv {m : List Int} (h : okM m = true) : ∀ x ∈ m, 1 ≤ x ∧ x ≤ 3 := by
  intro x hx
  obtain ⟨k, hk⟩ := List.getElem?_of_mem hx
  exact okM_at h hk
theorem perm_lv {m S : List Int} (hp : S.Perm m) (h : ∀ x ∈ m, 1 ≤ x ∧ x ≤ 3) : ∀ x ∈ S, 1 ≤ x ∧ x ≤ 3 := fun x hx => h x (hp.mem_iff.1 hx)

/-- how far LeastTests is after k rounds -/
structure LtS (m : List Int) (tn k : Nat) (l : List Int) (out : Int) : Prop where
  len : l.length = m.length - k
  lv : ∀ x ∈ l, 1 ≤ x ∧ x ≤ 3
  lo : 1 ≤ out
  hi : out ≤ 3 ^ k
  val : ltG (tn - k) l out = ltG tn m 1
theorem LtS.start {m : List Int} {tn : Nat} (hm : okM m = true) : LtS m tn 0 m 1 := ⟨rfl, okM_lv hm, Int.le_refl _, by simp, rfl⟩
theorem LtS.best {m l : List Int} {tn k : Nat} {out : Int} (h : LtS m tn k l out) (hk : k < tn) (ht : tn ≤ m.length) : mxI l < l.length := mxK_lt l l.length (by have := h.len; omega)
theorem LtS.next {m l : List Int} {tn k : Nat} {out x : Int} (h : LtS m tn k l out) (hk : k < tn) (ht : tn ≤ m.length) (hx : l[mxI l]? = some x) : LtS m tn (k + 1) (l.eraseIdx (mxI l)) (out * x) := by
  have hb := h.best hk ht
  have hxm := h.lv x (List.mem_of_getElem? hx)
  have hg : l.getD (mxI l) 0 = x := by simp [List.getD, hx]
  refine ⟨?_, fun y hy => h.lv y (List.mem_of_mem_eraseIdx hy), mul_ge1 h.lo hxm.1, ?_, ?_⟩
  · rw [List.length_eraseIdx_of_lt hb]; have := h.len; omega
  · rw [Int.pow_succ]; exact mul_le3 h.lo h.hi hxm.2
  · rw [← h.val, show tn - k = (tn - (k + 1)) + 1 by omega, ltG_succ, hg]
theorem LtS.small {m l : List Int} {tn k : Nat} {out : Int} (h : LtS m tn k l out) (hk : k ≤ 5) : out ≤ 243 := Int.le_trans h.hi (pow3_le (Nat.le_refl _) hk)
theorem LtS.mul {m l : List Int} {tn k : Nat} {out x : Int} (h : LtS m tn k l out) (hk : k ≤ 5) (hx : x ∈ l) : 1 ≤ out * x ∧ out * x ≤ 729 := by
  have h1 := h.small hk
  have h2 := mul_le3 h.lo h1 (h.lv x hx).2
  have h3 := mul_ge1 h.lo (h.lv x hx).1
  omega
theorem LtS.fin {m l : List Int} {tn : Nat} {out : Int} (h : LtS m tn tn l out) (hm : okM m = true) (ht : tn ≤ m.length) : out = ltV m tn := by
  rw [lt_yes hm (by omega) (by omega), Int.toNat_natCast, ← h.val, Nat.sub_self]; rfl
theorem mxK_step {l : List Int} {j : Nat} {x y : Int} (hx : l[j]? = some x) (hy : l[mxK l j]? = some y) : mxK l (j + 1) = if y < x then j else mxK l j := by
  have h1 : l.getD j 0 = x := by simp [List.getD, hx]
  have h2 : l.getD (mxK l j) 0 = y := by simp [List.getD, hy]
  rw [mxK, h1, h2]

/- Walks: LeastTests, of both sides. -/
open Go.RowKit

def SoL (l : List Int) (w : World) (e : Ending) (w' : World) : Prop := ∃ (S : List Int) (b o c : Nat), e = .returned (.slice (some ⟨b, o, none⟩) S.length c) ∧ S.Perm l ∧ S.Pairwise (· ≤ ·) ∧ RI w' w.heap.size w'.heap.size (some ⟨b, o, none⟩) S ∧ S.length ≤ c ∧ Below w.heap.size w w'

set_option maxRecDepth 100000 in
set_option maxHeartbeats 2000000 in
theorem x_SortedI {l : List Int} {gf : Nat} {lb : Array Value} {n₀ K : Nat} {w0 w : World} (eg : ∀ args w, (callFunc gf args).run Try.prog w = .ok (.enter gf args) w)
    (hseq : SeqO Try.prog gf lb (fun x : Int => #[.int .i64 x]) l n₀ 0 0 K w0) (hn₀ : n₀ ≤ w.heap.size) (hb0 : Below n₀ w0 w) (h0 : 0 < l.length) (hl : l.length ≤ 5) :
    Calls Try.prog 158 #[.func (.func gf) #[] lb] w (SoL l w) := by
  go_enter Try.func158, Try.ntmps158
  go_wp2_with fail
  refine (x_CollectI eg hseq hn₀ hb0 (by omega)).mono ?_
  rintro e w1 ⟨av, cv, rfl, hown, hb⟩
  obtain ⟨a1, c1, e1, hoc⟩ := hown.slice
  obtain ⟨rfl, rfl⟩ : av = a1 ∧ cv = c1 := by simpa using e1
  obtain ⟨b, o, e2, _⟩ := hoc.oi 0 h0
  subst e2
  have hcap := hoc.cap
  go_wp2_with fail
  refine (x_SortI hoc.oi h0 hl (Nat.le_refl _)).mono ?_
  rintro e w2 ⟨S, rfl, h1, h2, h3, h4, h5⟩
  have hlen := h1.length_eq
  go_wp2
  go_ret
  rw [← hlen]
  exact ⟨S, b, o, cv, rfl, h1, h2, by rw [← h5]; exact h3.ri, by omega, hb.trans (Upd.below h4 |>.mono (by omega))⟩

set_option maxRecDepth 100000 in
set_option maxHeartbeats 2000000 in
theorem i_LeastTests {m : List Int} {a : Option Addr} {c lo hi : Nat} {w : World} {t : Int} (hm : RI w lo hi a m) (hlm : m.length ≤ 9223372036854775807) (_ht1 : -9223372036854775808 ≤ t) (_ht2 : t ≤ 9223372036854775807) (hhi : hi ≤ w.heap.size) :
    Calls Try.prog 49 #[.slice a m.length c, .int .i64 t] w (fun e w' => e = .returned (.int .i64 (ltV m t)) ∧ Below w.heap.size w w') := by
  cases hok : okM m
  · have HOK := Lib.hid hok; clear hok
    go_enter Try.func49, Try.ntmps49
    go_wp2_with fail
    refine (i_ValidModel hm hlm).mono ?_
    rintro e w1 ⟨rfl, d1⟩
    rw [HOK.out]
    go_wp2
    go_ret
    exact ⟨by rw [lt_no (by rw [HOK.out]; rfl)]; rfl, Dr.below d1 _⟩
  have HOK := Lib.hid hok; clear hok
  cases hin : inR t 0 m.length
  · have HIN := Lib.hid hin; clear hin
    go_enter Try.func49, Try.ntmps49
    go_wp2_with fail
    refine (i_ValidModel hm hlm).mono ?_
    rintro e w1 ⟨rfl, d1⟩
    rw [HOK.out]
    go_wp2_with fail
    refine (i_isStrength hlm).mono ?_
    rintro e w2 ⟨rfl, d2⟩
    rw [HIN.out]
    go_wp2
    go_ret
    exact ⟨by rw [lt_no (by rw [HIN.out]; simp)]; rfl, Dr.below (Dr.trans d1 d2) _⟩
  have HIN := Lib.hid hin
  have ht := inR_true.1 hin
  clear hin
  obtain ⟨tn, rfl⟩ : ∃ tn : Nat, t = (tn : Int) := ⟨t.toNat, by omega⟩
  have htn : tn ≤ m.length := by omega
  have hm5 := okM_len HOK.out
  clear ht
  go_enter Try.func49, Try.ntmps49
  go_wp2_with fail
  refine (i_ValidModel hm hlm).mono ?_
  rintro e w1 ⟨rfl, d1⟩
  rw [HOK.out]
  go_wp2_with fail
  refine (i_isStrength hlm).mono ?_
  rintro e w2 ⟨rfl, d2⟩
  rw [HIN.out]
  have D2 := Dr.trans d1 d2
  have Z2 := Dr.le D2
  clear d1 d2
  go_wp2_with fail
  refine x_ValuesI.mono ?_
  rintro e w3 ⟨rfl, rfl⟩
  have hm2 := hm.dr D2
  have hA := heap_alloc_new w2 (.cells #[.slice a m.length c] 23)
  have hbA := (Below.refl w2.heap.size w2).alloc (Nat.le_refl _) (.cells #[.slice a m.length c] 23)
  have hsq := valuesI_seq (n₀ := w2.heap.size + 1) hm2 (by omega) hbA (by omega) (by omega) hA (by omega) (by simp)
  go_wp2_with fail
  refine (x_SortedI (fun _ _ => rfl) hsq (by simp) (Below.refl _ _) (by omega) hm5.2).mono ?_
  rintro e w4 ⟨S, b, o, c4, rfl, hp, hs, hS, hc4, hb4⟩
  have hSl := hp.length_eq
  rw [hSl] at hc4
  rw [hSl]
  have HV := Lib.hid (lt_sorted1 HOK.out htn hp hs)
  have HL := Lib.hid (perm_lv hp (okM_lv HOK.out))
  have hS5 : S.length ≤ 5 := by omega
  have hBel := (Dr.below D2 w.heap.size).trans (((hbA.trans (hb4.mono (by simp))).mono Z2.2))
  obtain ⟨q, hq⟩ : ∃ q, m.length - tn = q := ⟨_, rfl⟩
  have hq2 : IntKind.i64.wrap ((m.length : Int) - (tn : Int)) = (q : Int) := by rw [IntWalk.i64_in _ (by omega)]; omega
  obtain ⟨o', ho', hfrom⟩ := cutFrom (b := b) (o := o) (n := m.length) (c := c4) (k := q) (z := (q : Int)) rfl (by omega) hc4
  have hD := hS.dropI (k := q) (o' := o') (by rw [hSl]; exact ho')
  have hDl : m.length - q = tn := by omega
  rw [hDl] at hfrom
  rw [hq] at HV
  have HDL : Hid ((S.drop q).length = tn) := by show _ = _; simp; omega
  have HM := Lib.hid (fun k => prF_mid (q := q) (k := k) HL.out hS5)
  obtain ⟨D, hDe⟩ : ∃ D, S.drop q = D := ⟨_, rfl⟩
  rw [hDe] at hD HV HDL HM
  have HLD : Hid (∀ x ∈ D, 1 ≤ x ∧ x ≤ 3) := by
    show ∀ x ∈ D, _
    intro x hx
    exact HL.out x (List.mem_of_mem_drop (by rw [hDe]; exact hx))
  have HD := Lib.hid hD
  clear hm2 hA hbA hsq hp hs hS hb4 hD hDe hm ho' HL D2 HIN hSl hq hDl
  go_wp2
  go_loopw [6, 8, 28] (fun p _ k wr => ∃ kn : Nat, kn ≤ tn ∧ k = .int .i64 kn ∧ p = .int .i64 (prF (D.take kn)) ∧ Dr w4 wr) (fun _ _ k _ => tn - (intOf k).toNat)
  case atStart => exact ⟨0, Nat.zero_le _, rfl, rfl, Dr.refl _⟩
  case round =>
    obtain ⟨kn, hk, rfl, rfl, D5⟩ := hrel
    by_cases hlt : kn < tn
    · have hkl : kn < D.length := by have := HDL.out; omega
      obtain ⟨b1, o1, x, ha1, _, _, hc1, hx1⟩ := (HD.out.dr D5).at hkl
      obtain ⟨rfl, rfl⟩ : b = b1 ∧ o' = o1 := by simpa using ha1
      have hidx := idxI (a := some ⟨b, o', none⟩) rfl hlt (c4 - q)
      have h1 := HM.out kn
      have h2 := HM.out (kn + 1)
      rw [prF_take hx1.out] at h2
      have HT := Lib.hid (prF_take hx1.out)
      have hw : IntKind.i64.wrap (prF (D.take kn) * x) = prF (D.take kn) * x := by rw [IntWalk.i64_in _ (by omega)]
      clear ha1 hx1 h1 h2
      go_wp2
      go_roundw
      case rel => exact ⟨kn + 1, by omega, by go_num, by rw [HT.out], D5⟩
      case measure => simp [intOf]; omega
    · have HE : Hid (prF (D.take kn) = ltV m tn) := by show _ = _; rw [HV.out, List.take_of_length_le (by have := HDL.out; omega)]
      go_wp2
      go_ret
      exact ⟨by first | rfl | (rw [HE.out]; rfl), hBel.trans (Dr.below D5 _)⟩

set_option maxRecDepth 100000 in
set_option maxHeartbeats 4000000 in
theorem s_LeastTests {m : List Int} {a : Option Addr} {c lo hi : Nat} {w : World} {t : Int} (hm : RI w lo hi a m) (hlm : m.length ≤ 9223372036854775807) (_ht1 : -9223372036854775808 ≤ t) (_ht2 : t ≤ 9223372036854775807) (hhi : hi ≤ w.heap.size) :
    Calls Try.prog 63 #[.slice a m.length c, .int .i64 t] w (fun e w' => e = .returned (.int .i64 (ltV m t)) ∧ Below w.heap.size w w') := by
  cases hok : okM m
  · have HOK := Lib.hid hok; clear hok
    go_enter Try.func63, Try.ntmps63
    go_wp2_with fail
    refine (s_validModel hm hlm).mono ?_
    rintro e w1 ⟨rfl, d1⟩
    rw [HOK.out]
    go_wp2
    go_ret
    exact ⟨by rw [lt_no (by rw [HOK.out]; rfl)]; rfl, Dr.below d1 _⟩
  have HOK := Lib.hid hok; clear hok
  cases hin : inR t 0 m.length
  · have HIN := Lib.hid hin; clear hin
    go_enter Try.func63, Try.ntmps63
    go_wp2_with fail
    refine (s_validModel hm hlm).mono ?_
    rintro e w1 ⟨rfl, d1⟩
    rw [HOK.out]
    go_wp2_with fail
    refine (s_inRange _ _ _ _).mono ?_
    rintro e w2 ⟨rfl, d2⟩
    rw [HIN.out]
    go_wp2
    go_ret
    exact ⟨by rw [lt_no (by rw [HIN.out]; simp)]; rfl, Dr.below (Dr.trans d1 d2) _⟩
  have HIN := Lib.hid hin
  have ht := inR_true.1 hin
  clear hin
  obtain ⟨tn, rfl⟩ : ∃ tn : Nat, t = (tn : Int) := ⟨t.toNat, by omega⟩
  have htn : tn ≤ m.length := by omega
  have hm5 := okM_len HOK.out
  obtain ⟨b0, o0, _, ha0, _, _, _, _⟩ := hm.at (show 0 < m.length by omega)
  subst ha0
  clear ht
  go_enter Try.func63, Try.ntmps63
  go_wp2_with fail
  refine (s_validModel hm hlm).mono ?_
  rintro e w1 ⟨rfl, d1⟩
  rw [HOK.out]
  go_wp2_with fail
  refine (s_inRange _ _ _ _).mono ?_
  rintro e w2 ⟨rfl, d2⟩
  rw [HIN.out]
  have D2 := Dr.trans d1 d2
  have Z2 := Dr.le D2
  have hB2 := Dr.below D2 w.heap.size
  clear d1 d2 D2
  have hstA : OwnL (w2.alloc (.cells #[] 3)) w.heap.size (.slice (some ⟨w2.heap.size, 0, none⟩) 0 0) [] := ownL_base (OwnL.made w2 w2.heap.size (Nat.le_refl _)) Z2.2
  have hbA := hB2.alloc Z2.2 (.cells #[] 3)
  have hwA : w.heap.size ≤ (w2.alloc (.cells #[] 3)).heap.size := by simp; omega
  have hrA := hm.below hbA hhi
  have HS0 := Lib.hid (LtS.start (tn := tn) HOK.out)
  go_wp2_with (at_builtin; refine wpList_appS rfl _ _ rfl w.heap.size _ [] rfl hstA m lo hi c _ rfl hrA (by simp) (by omega) hwA ?_; intro v5 w5 hown5 hb5; rw [List.nil_append] at hown5; obtain ⟨a5, c5, rfl, ho5⟩ := hown5.slice; have hb05 := hbA.trans hb5; clear hstA hrA hbA)
  go_loopw [5, 6, 7, 8, 9] (fun v out i _ _ wr => ∃ (k : Nat) (l : List Int) (ad : Option Addr) (cd : Nat) (o1 : Int), k ≤ tn ∧ v = .slice ad l.length cd ∧ out = .int .i64 o1 ∧ i = .int .i64 k ∧ OIc wr w.heap.size wr.heap.size ad cd l ∧ Hid (LtS m tn k l o1) ∧ Below w.heap.size w wr) (fun _ _ i _ _ _ => tn - (intOf i).toNat)
  case atStart => exact ⟨0, m, a5, c5, 1, Nat.zero_le _, rfl, rfl, rfl, ho5, HS0, hb05⟩
  case round =>
    clear ho5 hb05 hown5 hb5 HS0
    obtain ⟨k, l, ad, cd, o1, hk, rfl, rfl, rfl, hO, HS, hB⟩ := hrel
    by_cases hlt : k < tn
    · have hbest := HS.out.best hlt htn
      have hl5 : l.length ≤ 5 := by have := HS.out.len; omega
      have hl0 : 0 < l.length := by omega
      obtain ⟨b1, o2, _, ha1, _, _, _, _⟩ := hO.ri.at hl0
      subst ha1
      have hcap := hO.cap
      have HR := Lib.hid hO.ri
      have HX1 := Lib.hid (mxK_one l)
      clear hO
      obtain ⟨wo, hwo⟩ : ∃ wo, wo = wr := ⟨_, rfl⟩
      subst hwo
      go_wp2
      go_loopw [8, 9] (fun bs j wr => ∃ jn : Nat, 1 ≤ jn ∧ jn ≤ l.length ∧ j = .int .i64 jn ∧ bs = .int .i64 (mxK l jn : Nat) ∧ Dr wo wr) (fun _ j _ => l.length - (intOf j).toNat)
      case atStart => exact ⟨1, Nat.le_refl _, hl0, rfl, by rw [HX1.out]; rfl, Dr.refl _⟩
      case round =>
        obtain ⟨jn, hj1, hj, rfl, rfl, D6⟩ := hrel
        by_cases hjl : jn < l.length
        · have hml := mxK_lt l jn (by omega)
          obtain ⟨b2, o3, x, ha2, _, _, hc2, hx2⟩ := (HR.out.dr D6).at hjl
          obtain ⟨rfl, rfl⟩ : b1 = b2 ∧ o2 = o3 := by simpa using ha2
          obtain ⟨b3, o4, y, ha3, _, _, hc3, hy3⟩ := (HR.out.dr D6).at (show mxK l jn < l.length by omega)
          obtain ⟨rfl, rfl⟩ : b1 = b3 ∧ o2 = o4 := by simpa using ha3
          have HST := Lib.hid (mxK_step hx2.out hy3.out)
          obtain ⟨z, hz⟩ : ∃ z, mxK l jn = z := ⟨_, rfl⟩
          rw [hz] at hc3 HST hml ⊢
          have hi1 := idxI (a := some ⟨b1, o2, none⟩) rfl hjl cd
          have hi2 := idxI (a := some ⟨b1, o2, none⟩) rfl (show z < l.length by omega) cd
          clear ha2 ha3 hx2 hy3 hz
          by_cases hxy : y < x
          · have hd : decide (y < x) = true := decide_eq_true hxy
            have HX : Hid (jn = mxK l (jn + 1)) := by show _ = _; rw [HST.out, if_pos hxy]
            clear hxy
            go_wp2_with fail
            go_quiet (fail)
            go_wp2
            go_roundw
            case rel => exact ⟨jn + 1, by omega, by omega, by go_num, by rw [← HX.out], Dr.drewN D6 _⟩
            case measure => simp [intOf]; omega
          · have hd : decide (y < x) = false := decide_eq_false hxy
            have HX : Hid (z = mxK l (jn + 1)) := by show _ = _; rw [HST.out, if_neg hxy]
            clear hxy
            go_wp2_with fail
            go_quiet (fail)
            go_wp2
            go_roundw
            case rel => exact ⟨jn + 1, by omega, by omega, by go_num, by rw [← HX.out], Dr.drewN D6 _⟩
            case measure => simp [intOf]; omega
        · have hjL : jn = l.length := by omega
          subst hjL
          change mxI l < l.length at hbest
          obtain ⟨b2, o3, x, ha2, _, _, hc2, hx2⟩ := (HR.out.dr D6).at hbest
          obtain ⟨rfl, rfl⟩ : b1 = b2 ∧ o2 = o3 := by simpa using ha2
          have hmu := HS.out.mul (by omega) (List.mem_of_getElem? hx2.out)
          have HN := Lib.hid (HS.out.next hlt htn hx2.out)
          have hmw : IntKind.i64.wrap (o1 * x) = o1 * x := by rw [IntWalk.i64_in _ (by omega)]
          obtain ⟨z, hz⟩ : ∃ z, mxI l = z := ⟨_, rfl⟩
          have hz2 : mxK l l.length = z := hz
          rw [hz] at hc2 hbest HN
          rw [hz2]
          have hi2 := idxI (a := some ⟨b1, o2, none⟩) rfl hbest cd
          have hto := cutTo (b := b1) (o := o2) (n := l.length) (c := cd) (k := z) (z := (z : Int)) rfl (by omega)
          obtain ⟨o', ho', hfrom⟩ := cutFrom (b := b1) (o := o2) (n := l.length) (c := cd) (k := z + 1) (z := (z : Int) + 1) (by omega) (by omega) hcap
          have hw1 : IntKind.i64.wrap ((z : Int) + 1) = (z : Int) + 1 := by rw [IntWalk.i64_in _ (by omega)]
          have hZ6 := Dr.le D6
          have hB6 := hB.trans (Dr.below D6 w.heap.size)
          have hZw := hB.size
          have hbAA := ((Below.refl wr.heap.size wr).alloc (Nat.le_refl _) (.cells #[] 3)).drew
          have hbWA := hB6.trans (hbAA.mono (by omega))
          have hwAA : wr.heap.size ≤ (wr.alloc (.cells #[] 3)).drew.heap.size := by simp
          have hstA : OwnL (wr.alloc (.cells #[] 3)).drew wr.heap.size (.slice (some ⟨wr.heap.size, 0, none⟩) 0 0) [] := (OwnL.made wr wr.heap.size (Nat.le_refl _)).below ((Below.refl _ _).drew)
          have HR6 := Lib.hid (HR.out.dr D6)
          have hrAA := (HR6.out.below hbAA hZ6.2).takeI z
          have HTL : Hid (z = (l.take z).length) := by show _ = _; simp; omega
          have HDL : Hid (l.length - (z + 1) = (l.drop (z + 1)).length) := by show _ = _; simp
          have HO := Lib.hid ho'
          have h1 : (l.take z).length ≤ 1099511627776 := by simp; omega
          have h2 : (l.drop (z + 1)).length ≤ 1099511627776 := by simp; omega
          have hl00 : ([] : List Int).length ≤ 1099511627776 := by simp
          have HE : Hid (l.take z ++ l.drop (z + 1) = l.eraseIdx z) := by show _ = _; rw [List.eraseIdx_eq_take_drop_succ]
          have hww : w.heap.size ≤ wr.heap.size := by omega
          clear ha2 hx2 hz hz2 ho' hmu HR hB D6 HX1
          go_wp2_with fail
          go_region_held3 (fun _ => True) (trivial) ((first
            | (refine step_appSg (by rfl) _ _ (by rfl) wr.heap.size _ [] (by rfl) hstA (l.take z) w.heap.size wo.heap.size _ _ ⟨b1, o2, none⟩ HTL.out (by rfl) hrAA hl00 h1 hwAA ?_; intro v5 w5 hown5 hb5 _; rw [List.nil_append] at hown5; have hb05 := hbAA.trans hb5; have hz5 := hb05.size; have hri5 := (HR6.out.below hb05 hZ6.2).dropI HO.out; clear hstA hrAA)
            | (refine step_appSg (by rfl) _ _ (by rfl) wr.heap.size _ (l.take z) (by rfl) hown5 (l.drop (z + 1)) w.heap.size wo.heap.size _ _ ⟨b1, o', none⟩ HDL.out (by rfl) hri5 h1 h2 hz5 ?_; intro v6 w6 hown6 hb6 _)
            | fail))
          all_goals
            have hb06 := hb05.trans hb6
            rw [HE.out] at hown6
            obtain ⟨a7, c7, rfl, ho7⟩ := hown6.slice
            go_wp2
            go_roundw
            case rel => exact ⟨k + 1, l.eraseIdx z, a7, c7, o1 * x, by omega, rfl, rfl, by go_num, ho7.wide hww (by first | exact Nat.le_refl _ | simp), HN, hB6.trans (hb06.mono hww)⟩
            case measure => simp [intOf]; omega
    · have hkt : k = tn := by omega
      subst hkt
      have HF := Lib.hid (HS.out.fin HOK.out htn)
      go_wp2
      go_ret
      exact ⟨by first | rfl | (rw [HF.out]; rfl), hB⟩

end Go.Proofs.Ytehoagbpgahopaa
