/- The answers of a desk: plain facts; walks of the document's reference. -/
import Derived.Test.YtpioldgpfpmjiaaGreatDoorKl
import Derived.Test.YtpioldgpfpmjiaaGreatDoorKh
import Derived.Test.YtpioldgpfpmjiaaGreatDoorYi
import Derived.Test.YtpioldgpfpmjiaaGreatDoorVb
import Derived.Lib.ItoaNum
namespace Go.Proofs.YtpioldgpfpmjiaaGreatDoor
open Go.RowKit

def covS : ByteArray := ⟨#[99, 111, 118, 101, 114, 101, 100]⟩
def groS : ByteArray := ⟨#[103, 114, 111, 119]⟩
def triS : ByteArray := ⟨#[116, 114, 105, 109]⟩
def whatS : ByteArray := ⟨#[119, 104, 97, 116]⟩
def wrongS : ByteArray := ⟨#[119, 114, 111, 110, 103]⟩
def noneS : ByteArray := ⟨#[110, 111, 110, 101]⟩
/-- which word a text is; 3: none -/
def dkK (s : ByteArray) : Nat := if s = covS then 0 else if s = groS then 1 else if s = triS then 2 else 3
def nmS (n : Int) : ByteArray := ⟨(Lib.itoa n).toArray⟩
/-- one digit, at most n -/
def dkD (q : ByteArray) (n : Nat) : Bool := decide (q.size = 1) && decide (48 ≤ (q.data.toList.headD 0).toNat) && decide ((q.data.toList.headD 0).toNat ≤ 57) && decide ((q.data.toList.headD 0).toNat ≤ n + 48)
def dkN (q : ByteArray) : Int := ((q.data.toList.headD 0).toNat : Int) - 48
def dkV (k : Nat) (m : List Int) (L : List (List Int)) (t : Int) : ByteArray :=
  if k = 0 then nmS (covA m L t) ++ ⟨#[47]⟩ ++ nmS (covB m L t) else if k = 1 then (if gsB m L t then stT (gsL m L t) else noneS) else stT (trL m L t)
def anW (w0 w1 w2 w3 : ByteArray) : ByteArray := if dkK w0 = 3 then whatS else if psB (rdL w1) w3 && dkD w2 (rdL w1).length then dkV (dkK w0) (rdL w1) (psR w3) (dkN w2) else wrongS
def anX : List ByteArray → ByteArray
  | [w0, w1, w2, w3] => anW w0 w1 w2 w3
  | _ => whatS
def anS (line : ByteArray) : ByteArray := anX (pcs 32 line)
theorem anX_len {X : List ByteArray} (h : X.length ≠ 4) : anX X = whatS := by
  unfold anX
  split
  · simp at h
  · rfl

/-- what a word compares as -/
def dkC (s : ByteArray) (a b c : Bool) : Prop := (s.toList == [99, 111, 118, 101, 114, 101, 100]) = a ∧ (s.toList == [103, 114, 111, 119]) = b ∧ (s.toList == [116, 114, 105, 109]) = c
theorem toList_ne {s c : ByteArray} (h : s ≠ c) : (s.toList == c.toList) = false := by
  rw [beq_eq_false_iff_ne]; intro e
  rw [Lib.toList_data, Lib.toList_data] at e
  refine h ?_
  obtain ⟨⟨l⟩⟩ := s
  obtain ⟨⟨r⟩⟩ := c
  have e2 : l = r := e
  rw [e2]
theorem dk_cases (s : ByteArray) : (dkK s = 0 ∧ dkC s true false false) ∨ (dkK s = 1 ∧ dkC s false true false) ∨ (dkK s = 2 ∧ dkC s false false true) ∨ (dkK s = 3 ∧ dkC s false false false) := by
  unfold dkK
  by_cases h0 : s = covS
  · subst h0; exact .inl ⟨rfl, by unfold dkC; rw [Lib.toList_data]; decide +kernel⟩
  by_cases h1 : s = groS
  · subst h1; exact .inr (.inl ⟨rfl, by unfold dkC; rw [Lib.toList_data]; decide +kernel⟩)
  by_cases h2 : s = triS
  · subst h2; exact .inr (.inr (.inl ⟨rfl, by unfold dkC; rw [Lib.toList_data]; decide +kernel⟩))
  · rw [if_neg h0, if_neg h1, if_neg h2]
    have e0 := toList_ne h0
    have e1 := toList_ne h1
    have e2 := toList_ne h2
    rw [Lib.toList_data covS] at e0
    rw [Lib.toList_data groS] at e1
    rw [Lib.toList_data triS] at e2
    exact .inr (.inr (.inr ⟨rfl, e0, e1, e2⟩))

theorem nm_small : ∀ n : Nat, n < 10 → nmS n = (⟨#[48, 49, 50, 51, 52, 53, 54, 55, 56, 57]⟩ : ByteArray).extract n (n + 1) := by
  intro n h
  have e : nmS n = ⟨#[UInt8.ofNat (48 + n)]⟩ := by
    unfold nmS Lib.itoa
    rw [if_neg (by omega), Int.toNat_natCast, Lib.decDigits, dif_pos h]
  rw [e]
  revert n
  decide +kernel
theorem nm_big {n : Nat} (h : ¬ n < 10) : nmS n = nmS (n / 10 : Nat) ++ nmS (n % 10 : Nat) := by
  have h2 : n % 10 < 10 := Nat.mod_lt _ (by decide)
  unfold nmS Lib.itoa
  rw [if_neg (by omega), if_neg (by omega), if_neg (by omega), Int.toNat_natCast, Int.toNat_natCast, Int.toNat_natCast, Lib.decDigits, dif_neg h, show Lib.decDigits (n % 10) = [UInt8.ofNat (48 + n % 10)] from by rw [Lib.decDigits, dif_pos h2]]
  apply ByteArray.ext
  simp
theorem nm_size {n : Nat} : (nmS n).size ≤ n + 1 := by
  induction n using Nat.strongRecOn with
  | _ n ih =>
    by_cases h : n < 10
    · unfold nmS Lib.itoa
      rw [if_neg (by omega), Int.toNat_natCast, Lib.decDigits, dif_pos h]
      show _ ≤ n + 1
      simp [ByteArray.size]
    · rw [nm_big h, ByteArray.size_append]
      have h1 := ih (n / 10) (by omega)
      have h2 : (nmS (n % 10 : Nat)).size ≤ 1 := by
        unfold nmS Lib.itoa
        rw [if_neg (by omega), Int.toNat_natCast, Lib.decDigits, dif_pos (Nat.mod_lt _ (by decide))]
        simp [ByteArray.size]
      omega

set_option maxRecDepth 100000 in
set_option maxHeartbeats 2000000 in
theorem s_number : ∀ (n : Nat) (w : World), n ≤ 100000 → Calls Tryz.prog 30 #[.int .i64 (n : Int)] w (RO w (.string (nmS n))) := by
  intro n
  induction n using Nat.strongRecOn with
  | _ n ih =>
    intro w hn
    have HIH := Lib.hid ih; clear ih
    by_cases h : n < 10
    · have HN := Lib.hid (nm_small n h)
      go_enter Tryz.func30, Tryz.ntmps30
      go_wp2
      go_ret
      rw [HN.out]
      exact RO.same _ _
    · have HN := Lib.hid (nm_big h)
      obtain ⟨a, ha⟩ : ∃ a, n / 10 = a := ⟨_, rfl⟩
      obtain ⟨b, hb⟩ : ∃ b, n % 10 = b := ⟨_, rfl⟩
      have han : a < n := by omega
      have hbn : b < n := by omega
      have H10 : Hid ((n : Int) / 10 = (a : Int)) := by show _ = _; omega
      have HR10 : Hid ((n : Int) % 10 = (b : Int)) := by show _ = _; omega
      rw [ha, hb] at HN
      have z1 := @nm_size a
      have z2 := @nm_size b
      clear ha hb
      go_enter Tryz.func30, Tryz.ntmps30
      go_wp2_with fail
      go_simp
      rw [H10.out]
      refine (HIH.out a han w (by omega)).mono ?_
      rintro e w1 ⟨rfl, d1⟩
      have d1 : Dr w w1 := d1
      go_wp2_with fail
      try go_simp
      rw [HR10.out]
      refine (HIH.out b hbn w1 (by omega)).mono ?_
      rintro e w2 ⟨rfl, d2⟩
      have d2 : Dr w1 w2 := d2
      go_wp2
      go_ret
      rw [HN.out]
      exact ⟨rfl, d1.trans d2⟩

theorem dk_facts {m : List Int} {L : List (List Int)} {t : Int} (hm : okM m = true) (hs : okS m L = true) (h0 : 0 ≤ t) (h1 : t ≤ m.length) :
    (∃ a b : Nat, covA m L t = a ∧ covB m L t = b ∧ a ≤ 1024 ∧ b ≤ 1024) ∧ okS m (trL m L t) = true ∧ (gsB m L t = true → okS m (gsL m L t) = true) := by
  have hc : okC m L t = true := by unfold okC; rw [hm, hs, inR_true.2 ⟨h0, h1⟩]; rfl
  refine ⟨?_, ?_, fun hg => ?_⟩
  · have h2 := cov_yes hc
    have h3 := patS_len hm t (head := [])
    have h4 : (misL m L t).length ≤ (patS m [] t).length := by unfold misL misP; exact List.length_filter_le _ _
    exact ⟨(patS m [] t).length - (misL m L t).length, (patS m [] t).length, by rw [h2.1]; omega, h2.2, by omega, h3⟩
  · have h2 := (tr_law hc).2.2.2.2
    unfold okC at h2
    rw [Bool.and_eq_true, Bool.and_eq_true] at h2
    exact h2.1.2
  · have h2 := (gs_facts hg).2.2.2.1
    unfold icB okC at h2
    rw [Bool.and_eq_true, Bool.and_eq_true, Bool.and_eq_true] at h2
    exact h2.1.1.2
theorem four {X : List ByteArray} (h : X.length = 4) : ∃ x0 x1 x2 x3, X = [x0, x1, x2, x3] := by
  match X, h with
  | [x0, x1, x2, x3], _ => exact ⟨_, _, _, _, rfl⟩
theorem su_okS {m : List Int} {L : List (List Int)} (hm : okM m = true) (hs : okS m L = true) : L.length ≤ 20 ∧ ∀ p ∈ L, p.length ≤ 5 ∧ ∀ (k : Nat) (x : Int), p[k]? = some x → -1 ≤ x ∧ x ≤ 2 :=
  ⟨okS_len hs, fun _ hp => (su_rows hm hs hp).2⟩
/-- the byte of a text of one byte -/
theorem one_at {q : ByteArray} (h : q.size = 1) : q.data.toList.headD 0 = q[0] := by
  obtain ⟨⟨l⟩⟩ := q
  match l, h with
  | [x], _ => rfl
theorem dkD_no {q : ByteArray} {n : Nat} (h : q.size = 1) (h2 : (q[0].toNat : Int) < 48 ∨ 57 < (q[0].toNat : Int) ∨ (n : Int) < (q[0].toNat : Int) - 48) : dkD q n = false := by
  unfold dkD
  rw [one_at h]
  rcases h2 with h2 | h2 | h2
  · rw [decide_eq_false (show ¬ 48 ≤ q[0].toNat by omega)]; simp
  · rw [decide_eq_false (show ¬ q[0].toNat ≤ 57 by omega)]; simp
  · rw [decide_eq_false (show ¬ q[0].toNat ≤ n + 48 by omega)]; simp
theorem dkD_yes {q : ByteArray} {n : Nat} (h : q.size = 1) (h1 : 48 ≤ (q[0].toNat : Int)) (h2 : (q[0].toNat : Int) ≤ 57) (h3 : (q[0].toNat : Int) - 48 ≤ (n : Int)) : dkD q n = true ∧ dkN q = (q[0].toNat : Int) - 48 := by
  unfold dkD dkN
  rw [one_at h, decide_eq_true h, decide_eq_true (show 48 ≤ q[0].toNat by omega), decide_eq_true (show q[0].toNat ≤ 57 by omega), decide_eq_true (show q[0].toNat ≤ n + 48 by omega)]
  exact ⟨rfl, rfl⟩
theorem an_wrong {x0 x1 x2 x3 : ByteArray} (hk : dkK x0 ≠ 3) (h : psB (rdL x1) x3 = false ∨ dkD x2 (rdL x1).length = false) : anW x0 x1 x2 x3 = wrongS := by
  unfold anW
  rw [if_neg hk]
  rcases h with h | h <;> rw [h] <;> simp
theorem an_yes {x0 x1 x2 x3 : ByteArray} (hk : dkK x0 ≠ 3) (h : psB (rdL x1) x3 = true) (h' : dkD x2 (rdL x1).length = true) : anW x0 x1 x2 x3 = dkV (dkK x0) (rdL x1) (psR x3) (dkN x2) := by
  unfold anW
  rw [if_neg hk, h, h']; rfl

set_option maxRecDepth 100000 in
set_option maxHeartbeats 8000000 in
theorem s_answer0 {line x0 x1 x2 x3 : ByteArray} {w : World} (hs : line.size ≤ 1048576) (hX : pcs 32 line = [x0, x1, x2, x3]) (hk : dkK x0 = 0) (hc : dkC x0 true false false) :
    Calls Tryz.prog 12 #[.string line] w (NewV w (.string (anW x0 x1 x2 x3))) := by
  have HX := Lib.hid hX
  have hsz : ∀ p ∈ pcs 32 line, p.size ≤ line.size := fun p hp => pcs_size hp
  rw [hX] at hsz
  have hz1 := hsz x1 (by simp)
  have hz3 := hsz x3 (by simp)
  have hlm := rdL_len x1
  have hRL := psR_len x3
  have HRG : Hid (∀ r ∈ psR x3, r.length ≤ 9223372036854775807) := fun r hr => by have := psR_row hr; omega
  have HW : Hid (psB (rdL x1) x3 = false ∨ dkD x2 (rdL x1).length = false → anW x0 x1 x2 x3 = wrongS) := fun h => an_wrong (by rw [hk]; decide) h
  have HYES : Hid (psB (rdL x1) x3 = true → dkD x2 (rdL x1).length = true → anW x0 x1 x2 x3 = dkV 0 (rdL x1) (psR x3) (dkN x2)) := fun h h' => by rw [← hk]; exact an_yes (by rw [hk]; decide) h h'
  obtain ⟨e0, e1, e2⟩ := hc
  have hml : (rdL x1).length ≤ 1048576 := by omega
  clear hX hsz hk hlm
  go_enter Tryz.func12, Tryz.ntmps12
  go_wp2_with fail
  refine (s_splitAt (c := 32) (by omega) rfl).mono ?_
  rintro e w1 ⟨v1, rfl, hv1, ho1, hb1⟩
  rw [HX.out] at ho1
  obtain ⟨g, gc, rfl, hg, hgc, hcs⟩ := ho1.text hv1
  have c0 := hcs 0 x0 rfl
  have c1 := hcs 1 x1 rfl
  have c2 := hcs 2 x2 rfl
  have c3 := hcs 3 x3 rfl
  simp only [Nat.zero_add] at c0 c1 c2 c3
  have i0 := fun wx => idxSt (a := some ⟨g, 0, none⟩) (len := 4) (k := 0) rfl (by omega) gc wx
  have i1 := fun wx => idxSt (a := some ⟨g, 0, none⟩) (len := 4) (k := 1) rfl (by omega) gc wx
  have i2 := fun wx => idxSt (a := some ⟨g, 0, none⟩) (len := 4) (k := 2) rfl (by omega) gc wx
  have i3 := fun wx => idxSt (a := some ⟨g, 0, none⟩) (len := 4) (k := 3) rfl (by omega) gc wx
  simp only [Nat.zero_add] at i0 i1 i2 i3
  have i0' : ∀ wx : World, (Instr.indexAt 22 (.slice (some ⟨g, 0, none⟩) 4 gc) (.int .i64 0)).run Tryz.prog wx = .ok (.pointer (some ⟨g, 0, none⟩)) wx := i0
  have i1' : ∀ wx : World, (Instr.indexAt 22 (.slice (some ⟨g, 0, none⟩) 4 gc) (.int .i64 1)).run Tryz.prog wx = .ok (.pointer (some ⟨g, 1, none⟩)) wx := i1
  have i2' : ∀ wx : World, (Instr.indexAt 22 (.slice (some ⟨g, 0, none⟩) 4 gc) (.int .i64 2)).run Tryz.prog wx = .ok (.pointer (some ⟨g, 2, none⟩)) wx := i2
  have i3' : ∀ wx : World, (Instr.indexAt 22 (.slice (some ⟨g, 0, none⟩) 4 gc) (.int .i64 3)).run Tryz.prog wx = .ok (.pointer (some ⟨g, 3, none⟩)) wx := i3
  have y1 := hb1.size
  clear ho1 hv1 hcs i0 i1 i2 i3
  go_wp2_with fail
  refine (s_readDigits (s := x1) (by omega)).mono ?_
  rintro e w2 ⟨ma, mc, rfl, hm, hb2⟩
  have y2 := hb2.size
  have k0 := (hb2.cell (p := ⟨g, 0, none⟩) (by show g < _; omega)).trans c0
  have k2 := (hb2.cell (p := ⟨g, 2, none⟩) (by show g < _; omega)).trans c2
  have k3 := (hb2.cell (p := ⟨g, 3, none⟩) (by show g < _; omega)).trans c3
  have hbw2 := hb1.trans (hb2.mono y1)
  clear c0 c1 c2 c3 hb1 hb2
  go_wp2_with fail
  refine (s_parseSuite (m := rdL x1) (s := x3) hm.ri (by omega) (by omega) (Nat.le_refl _)).mono ?_
  rintro e w3 ⟨ra, rc, rfl, hR, hb3⟩
  have y3 := hb3.size
  have q0 := (hb3.cell (p := ⟨g, 0, none⟩) (by show g < _; omega)).trans k0
  have q2 := (hb3.cell (p := ⟨g, 2, none⟩) (by show g < _; omega)).trans k2
  have hbw3 := hbw2.trans (hb3.mono (by omega))
  have hm3 := hm.below hb3 (by omega)
  have hz03 := hbw3.size
  clear k0 k2 k3 hb3 hbw2 hm
  cases hps : psB (rdL x1) x3
  · have HV := Lib.hid (HW.out (.inl hps))
    have HPS := Lib.hid hps; clear hps
    go_wp2
    go_ret
    rw [HV.out]
    exact ⟨rfl, hbw3⟩
  have HPS := Lib.hid hps
  by_cases h1 : x2.size = 1
  case neg =>
    have HV := Lib.hid (HW.out (.inr (by unfold dkD; rw [decide_eq_false h1]; rfl)))
    clear hps
    go_wp2
    go_ret
    rw [HV.out]
    exact ⟨rfl, hbw3⟩
  have hb8 := UInt8.toNat_lt x2[0]
  have hw8f : ∀ tt : Int, (x2[0].toNat : Int) - 48 = tt → 0 ≤ tt → tt ≤ 9 → IntKind.u8.wrap ((x2[0].toNat : Int) - 48) = tt := fun tt htt _ _ => by rw [htt]; exact IntWalk.u8_in tt (by omega)
  by_cases h48 : (x2[0].toNat : Int) < 48
  · have HV := Lib.hid (HW.out (.inr (dkD_no h1 (.inl h48))))
    clear hps
    go_wp2
    go_ret
    rw [HV.out]
    exact ⟨rfl, hbw3⟩
  by_cases h57 : 57 < (x2[0].toNat : Int)
  · have HV := Lib.hid (HW.out (.inr (dkD_no h1 (.inr (.inl h57)))))
    clear hps
    go_wp2
    go_ret
    rw [HV.out]
    exact ⟨rfl, hbw3⟩
  by_cases hle : ((rdL x1).length : Int) < (x2[0].toNat : Int) - 48
  · have HV := Lib.hid (HW.out (.inr (dkD_no h1 (.inr (.inr hle)))))
    clear hps
    go_wp2
    go_ret
    rw [HV.out]
    exact ⟨rfl, hbw3⟩
  · have hyes := dkD_yes h1 (by omega) (by omega) (show (x2[0].toNat : Int) - 48 ≤ ((rdL x1).length : Int) by omega)
    have hany := HYES.out hps hyes.1
    rw [hyes.2] at hany
    have hok : okM (rdL x1) = true ∧ okS (rdL x1) (psR x3) = true := by unfold psB at hps; rw [Bool.and_eq_true] at hps; exact hps
    have hokm := hok.1
    have hdk := dk_facts hok.1 hok.2 (show 0 ≤ (x2[0].toNat : Int) - 48 by omega) (show (x2[0].toNat : Int) - 48 ≤ ((rdL x1).length : Int) by omega)
    obtain ⟨tt, htt⟩ : ∃ tt : Int, (x2[0].toNat : Int) - 48 = tt := ⟨_, rfl⟩
    rw [htt] at hany hdk
    have ht0 : 0 ≤ tt ∧ tt ≤ 9 := by omega
    have htl : tt ≤ ((rdL x1).length : Int) := by omega
    have hok' := okM_len hok.1
    have hw8 := hw8f tt htt ht0.1 ht0.2
    clear hw8f htt
    clear hps hyes hok
    obtain ⟨ca, cb, hca, hcb, hca4, hcb4⟩ := hdk.1
    have HCA := Lib.hid hca; have HCB := Lib.hid hcb
    have hV : anW x0 x1 x2 x3 = nmS ca ++ ⟨#[47]⟩ ++ nmS cb := by rw [hany]; unfold dkV; rw [if_pos rfl, hca, hcb]
    have HV := Lib.hid hV
    have z1 := @nm_size ca
    have z2 := @nm_size cb
    clear hca hcb hV hdk hany
    go_wp2_with fail
    refine (s_CoverageOf (hm3.ri) (by omega) hR.rii (by omega) HRG.out (by omega) (by omega) (by omega) (by omega)).mono ?_
    rintro e w4 ⟨rfl, b4⟩
    rw [HCA.out, HCB.out]
    go_wp2_with fail
    refine (s_number ca w4 (by omega)).mono ?_
    rintro e w5 ⟨rfl, d5⟩
    have b5 := Dr.below d5 w4.heap.size
    have y4 := b4.size
    go_wp2_with fail
    refine (s_number cb w5 (by omega)).mono ?_
    rintro e w6 ⟨rfl, d6⟩
    have b6 := Dr.below d6 w.heap.size
    have BB := (hbw3.trans (b4.mono hz03)).trans ((b5.mono (by omega)))
    go_wp2
    go_ret
    rw [HV.out]
    exact ⟨rfl, BB.trans b6⟩
set_option maxRecDepth 100000 in
set_option maxHeartbeats 8000000 in
theorem s_answer1 {line x0 x1 x2 x3 : ByteArray} {w : World} (hs : line.size ≤ 1048576) (hX : pcs 32 line = [x0, x1, x2, x3]) (hk : dkK x0 = 1) (hc : dkC x0 false true false) :
    Calls Tryz.prog 12 #[.string line] w (NewV w (.string (anW x0 x1 x2 x3))) := by
  have HX := Lib.hid hX
  have hsz : ∀ p ∈ pcs 32 line, p.size ≤ line.size := fun p hp => pcs_size hp
  rw [hX] at hsz
  have hz1 := hsz x1 (by simp)
  have hz3 := hsz x3 (by simp)
  have hlm := rdL_len x1
  have hRL := psR_len x3
  have HRG : Hid (∀ r ∈ psR x3, r.length ≤ 9223372036854775807) := fun r hr => by have := psR_row hr; omega
  have HW : Hid (psB (rdL x1) x3 = false ∨ dkD x2 (rdL x1).length = false → anW x0 x1 x2 x3 = wrongS) := fun h => an_wrong (by rw [hk]; decide) h
  have HYES : Hid (psB (rdL x1) x3 = true → dkD x2 (rdL x1).length = true → anW x0 x1 x2 x3 = dkV 1 (rdL x1) (psR x3) (dkN x2)) := fun h h' => by rw [← hk]; exact an_yes (by rw [hk]; decide) h h'
  obtain ⟨e0, e1, e2⟩ := hc
  have hml : (rdL x1).length ≤ 1048576 := by omega
  clear hX hsz hk hlm
  go_enter Tryz.func12, Tryz.ntmps12
  go_wp2_with fail
  refine (s_splitAt (c := 32) (by omega) rfl).mono ?_
  rintro e w1 ⟨v1, rfl, hv1, ho1, hb1⟩
  rw [HX.out] at ho1
  obtain ⟨g, gc, rfl, hg, hgc, hcs⟩ := ho1.text hv1
  have c0 := hcs 0 x0 rfl
  have c1 := hcs 1 x1 rfl
  have c2 := hcs 2 x2 rfl
  have c3 := hcs 3 x3 rfl
  simp only [Nat.zero_add] at c0 c1 c2 c3
  have i0 := fun wx => idxSt (a := some ⟨g, 0, none⟩) (len := 4) (k := 0) rfl (by omega) gc wx
  have i1 := fun wx => idxSt (a := some ⟨g, 0, none⟩) (len := 4) (k := 1) rfl (by omega) gc wx
  have i2 := fun wx => idxSt (a := some ⟨g, 0, none⟩) (len := 4) (k := 2) rfl (by omega) gc wx
  have i3 := fun wx => idxSt (a := some ⟨g, 0, none⟩) (len := 4) (k := 3) rfl (by omega) gc wx
  simp only [Nat.zero_add] at i0 i1 i2 i3
  have i0' : ∀ wx : World, (Instr.indexAt 22 (.slice (some ⟨g, 0, none⟩) 4 gc) (.int .i64 0)).run Tryz.prog wx = .ok (.pointer (some ⟨g, 0, none⟩)) wx := i0
  have i1' : ∀ wx : World, (Instr.indexAt 22 (.slice (some ⟨g, 0, none⟩) 4 gc) (.int .i64 1)).run Tryz.prog wx = .ok (.pointer (some ⟨g, 1, none⟩)) wx := i1
  have i2' : ∀ wx : World, (Instr.indexAt 22 (.slice (some ⟨g, 0, none⟩) 4 gc) (.int .i64 2)).run Tryz.prog wx = .ok (.pointer (some ⟨g, 2, none⟩)) wx := i2
  have i3' : ∀ wx : World, (Instr.indexAt 22 (.slice (some ⟨g, 0, none⟩) 4 gc) (.int .i64 3)).run Tryz.prog wx = .ok (.pointer (some ⟨g, 3, none⟩)) wx := i3
  have y1 := hb1.size
  clear ho1 hv1 hcs i0 i1 i2 i3
  go_wp2_with fail
  refine (s_readDigits (s := x1) (by omega)).mono ?_
  rintro e w2 ⟨ma, mc, rfl, hm, hb2⟩
  have y2 := hb2.size
  have k0 := (hb2.cell (p := ⟨g, 0, none⟩) (by show g < _; omega)).trans c0
  have k2 := (hb2.cell (p := ⟨g, 2, none⟩) (by show g < _; omega)).trans c2
  have k3 := (hb2.cell (p := ⟨g, 3, none⟩) (by show g < _; omega)).trans c3
  have hbw2 := hb1.trans (hb2.mono y1)
  clear c0 c1 c2 c3 hb1 hb2
  go_wp2_with fail
  refine (s_parseSuite (m := rdL x1) (s := x3) hm.ri (by omega) (by omega) (Nat.le_refl _)).mono ?_
  rintro e w3 ⟨ra, rc, rfl, hR, hb3⟩
  have y3 := hb3.size
  have q0 := (hb3.cell (p := ⟨g, 0, none⟩) (by show g < _; omega)).trans k0
  have q2 := (hb3.cell (p := ⟨g, 2, none⟩) (by show g < _; omega)).trans k2
  have hbw3 := hbw2.trans (hb3.mono (by omega))
  have hm3 := hm.below hb3 (by omega)
  have hz03 := hbw3.size
  clear k0 k2 k3 hb3 hbw2 hm
  cases hps : psB (rdL x1) x3
  · have HV := Lib.hid (HW.out (.inl hps))
    have HPS := Lib.hid hps; clear hps
    go_wp2
    go_ret
    rw [HV.out]
    exact ⟨rfl, hbw3⟩
  have HPS := Lib.hid hps
  by_cases h1 : x2.size = 1
  case neg =>
    have HV := Lib.hid (HW.out (.inr (by unfold dkD; rw [decide_eq_false h1]; rfl)))
    clear hps
    go_wp2
    go_ret
    rw [HV.out]
    exact ⟨rfl, hbw3⟩
  have hb8 := UInt8.toNat_lt x2[0]
  have hw8f : ∀ tt : Int, (x2[0].toNat : Int) - 48 = tt → 0 ≤ tt → tt ≤ 9 → IntKind.u8.wrap ((x2[0].toNat : Int) - 48) = tt := fun tt htt _ _ => by rw [htt]; exact IntWalk.u8_in tt (by omega)
  by_cases h48 : (x2[0].toNat : Int) < 48
  · have HV := Lib.hid (HW.out (.inr (dkD_no h1 (.inl h48))))
    clear hps
    go_wp2
    go_ret
    rw [HV.out]
    exact ⟨rfl, hbw3⟩
  by_cases h57 : 57 < (x2[0].toNat : Int)
  · have HV := Lib.hid (HW.out (.inr (dkD_no h1 (.inr (.inl h57)))))
    clear hps
    go_wp2
    go_ret
    rw [HV.out]
    exact ⟨rfl, hbw3⟩
  by_cases hle : ((rdL x1).length : Int) < (x2[0].toNat : Int) - 48
  · have HV := Lib.hid (HW.out (.inr (dkD_no h1 (.inr (.inr hle)))))
    clear hps
    go_wp2
    go_ret
    rw [HV.out]
    exact ⟨rfl, hbw3⟩
  · have hyes := dkD_yes h1 (by omega) (by omega) (show (x2[0].toNat : Int) - 48 ≤ ((rdL x1).length : Int) by omega)
    have hany := HYES.out hps hyes.1
    rw [hyes.2] at hany
    have hok : okM (rdL x1) = true ∧ okS (rdL x1) (psR x3) = true := by unfold psB at hps; rw [Bool.and_eq_true] at hps; exact hps
    have hokm := hok.1
    have hdk := dk_facts hok.1 hok.2 (show 0 ≤ (x2[0].toNat : Int) - 48 by omega) (show (x2[0].toNat : Int) - 48 ≤ ((rdL x1).length : Int) by omega)
    obtain ⟨tt, htt⟩ : ∃ tt : Int, (x2[0].toNat : Int) - 48 = tt := ⟨_, rfl⟩
    rw [htt] at hany hdk
    have ht0 : 0 ≤ tt ∧ tt ≤ 9 := by omega
    have htl : tt ≤ ((rdL x1).length : Int) := by omega
    have hok' := okM_len hok.1
    have hw8 := hw8f tt htt ht0.1 ht0.2
    clear hw8f htt
    clear hps hyes hok
    have hV1 : gsB (rdL x1) (psR x3) tt = false → anW x0 x1 x2 x3 = noneS := fun h => by rw [hany]; unfold dkV; rw [if_neg (by decide), if_pos rfl, h]; rfl
    have hV2 : gsB (rdL x1) (psR x3) tt = true → anW x0 x1 x2 x3 = stT (gsL (rdL x1) (psR x3) tt) := fun h => by rw [hany]; unfold dkV; rw [if_neg (by decide), if_pos rfl, h]; rfl
    have hgo := hdk.2.2
    cases hg : gsB (rdL x1) (psR x3) tt
    · have HG := Lib.hid hg; have HV := Lib.hid (hV1 hg)
      clear hg hV1 hV2 hgo hdk hany
      go_wp2_with fail
      refine (s_GrowSuite (hm3.ri) (by omega) hR.rii (by omega) HRG.out (by omega) (by omega) (by omega) (by omega)).mono ?_
      rintro e w4 ⟨ga, gc4, rfl, g4, b4⟩
      rw [HG.out]
      have BB := hbw3.trans (b4.mono hz03)
      go_wp2
      go_ret
      rw [HV.out]
      exact ⟨rfl, BB⟩
    · have HG := Lib.hid hg; have HV := Lib.hid (hV2 hg)
      have hso := su_okS hokm (hgo hg)
      have HSO := Lib.hid hso.2
      have hsl := hso.1
      clear hg hV1 hV2 hgo hdk hany hso
      go_wp2_with fail
      refine (s_GrowSuite (hm3.ri) (by omega) hR.rii (by omega) HRG.out (by omega) (by omega) (by omega) (by omega)).mono ?_
      rintro e w4 ⟨ga, gc4, rfl, g4, b4⟩
      rw [HG.out]
      have BB := hbw3.trans (b4.mono hz03)
      go_wp2_with fail
      refine (s_suiteText g4.rii (by omega) HSO.out).mono ?_
      rintro e w5 ⟨rfl, d5⟩
      have b5 := Dr.below d5 w.heap.size
      go_wp2
      go_ret
      rw [HV.out]
      exact ⟨rfl, BB.trans b5⟩
set_option maxRecDepth 100000 in
set_option maxHeartbeats 8000000 in
theorem s_answer2 {line x0 x1 x2 x3 : ByteArray} {w : World} (hs : line.size ≤ 1048576) (hX : pcs 32 line = [x0, x1, x2, x3]) (hk : dkK x0 = 2) (hc : dkC x0 false false true) :
    Calls Tryz.prog 12 #[.string line] w (NewV w (.string (anW x0 x1 x2 x3))) := by
  have HX := Lib.hid hX
  have hsz : ∀ p ∈ pcs 32 line, p.size ≤ line.size := fun p hp => pcs_size hp
  rw [hX] at hsz
  have hz1 := hsz x1 (by simp)
  have hz3 := hsz x3 (by simp)
  have hlm := rdL_len x1
  have hRL := psR_len x3
  have HRG : Hid (∀ r ∈ psR x3, r.length ≤ 9223372036854775807) := fun r hr => by have := psR_row hr; omega
  have HW : Hid (psB (rdL x1) x3 = false ∨ dkD x2 (rdL x1).length = false → anW x0 x1 x2 x3 = wrongS) := fun h => an_wrong (by rw [hk]; decide) h
  have HYES : Hid (psB (rdL x1) x3 = true → dkD x2 (rdL x1).length = true → anW x0 x1 x2 x3 = dkV 2 (rdL x1) (psR x3) (dkN x2)) := fun h h' => by rw [← hk]; exact an_yes (by rw [hk]; decide) h h'
  obtain ⟨e0, e1, e2⟩ := hc
  have hml : (rdL x1).length ≤ 1048576 := by omega
  clear hX hsz hk hlm
  go_enter Tryz.func12, Tryz.ntmps12
  go_wp2_with fail
  refine (s_splitAt (c := 32) (by omega) rfl).mono ?_
  rintro e w1 ⟨v1, rfl, hv1, ho1, hb1⟩
  rw [HX.out] at ho1
  obtain ⟨g, gc, rfl, hg, hgc, hcs⟩ := ho1.text hv1
  have c0 := hcs 0 x0 rfl
  have c1 := hcs 1 x1 rfl
  have c2 := hcs 2 x2 rfl
  have c3 := hcs 3 x3 rfl
  simp only [Nat.zero_add] at c0 c1 c2 c3
  have i0 := fun wx => idxSt (a := some ⟨g, 0, none⟩) (len := 4) (k := 0) rfl (by omega) gc wx
  have i1 := fun wx => idxSt (a := some ⟨g, 0, none⟩) (len := 4) (k := 1) rfl (by omega) gc wx
  have i2 := fun wx => idxSt (a := some ⟨g, 0, none⟩) (len := 4) (k := 2) rfl (by omega) gc wx
  have i3 := fun wx => idxSt (a := some ⟨g, 0, none⟩) (len := 4) (k := 3) rfl (by omega) gc wx
  simp only [Nat.zero_add] at i0 i1 i2 i3
  have i0' : ∀ wx : World, (Instr.indexAt 22 (.slice (some ⟨g, 0, none⟩) 4 gc) (.int .i64 0)).run Tryz.prog wx = .ok (.pointer (some ⟨g, 0, none⟩)) wx := i0
  have i1' : ∀ wx : World, (Instr.indexAt 22 (.slice (some ⟨g, 0, none⟩) 4 gc) (.int .i64 1)).run Tryz.prog wx = .ok (.pointer (some ⟨g, 1, none⟩)) wx := i1
  have i2' : ∀ wx : World, (Instr.indexAt 22 (.slice (some ⟨g, 0, none⟩) 4 gc) (.int .i64 2)).run Tryz.prog wx = .ok (.pointer (some ⟨g, 2, none⟩)) wx := i2
  have i3' : ∀ wx : World, (Instr.indexAt 22 (.slice (some ⟨g, 0, none⟩) 4 gc) (.int .i64 3)).run Tryz.prog wx = .ok (.pointer (some ⟨g, 3, none⟩)) wx := i3
  have y1 := hb1.size
  clear ho1 hv1 hcs i0 i1 i2 i3
  go_wp2_with fail
  refine (s_readDigits (s := x1) (by omega)).mono ?_
  rintro e w2 ⟨ma, mc, rfl, hm, hb2⟩
  have y2 := hb2.size
  have k0 := (hb2.cell (p := ⟨g, 0, none⟩) (by show g < _; omega)).trans c0
  have k2 := (hb2.cell (p := ⟨g, 2, none⟩) (by show g < _; omega)).trans c2
  have k3 := (hb2.cell (p := ⟨g, 3, none⟩) (by show g < _; omega)).trans c3
  have hbw2 := hb1.trans (hb2.mono y1)
  clear c0 c1 c2 c3 hb1 hb2
  go_wp2_with fail
  refine (s_parseSuite (m := rdL x1) (s := x3) hm.ri (by omega) (by omega) (Nat.le_refl _)).mono ?_
  rintro e w3 ⟨ra, rc, rfl, hR, hb3⟩
  have y3 := hb3.size
  have q0 := (hb3.cell (p := ⟨g, 0, none⟩) (by show g < _; omega)).trans k0
  have q2 := (hb3.cell (p := ⟨g, 2, none⟩) (by show g < _; omega)).trans k2
  have hbw3 := hbw2.trans (hb3.mono (by omega))
  have hm3 := hm.below hb3 (by omega)
  have hz03 := hbw3.size
  clear k0 k2 k3 hb3 hbw2 hm
  cases hps : psB (rdL x1) x3
  · have HV := Lib.hid (HW.out (.inl hps))
    have HPS := Lib.hid hps; clear hps
    go_wp2
    go_ret
    rw [HV.out]
    exact ⟨rfl, hbw3⟩
  have HPS := Lib.hid hps
  by_cases h1 : x2.size = 1
  case neg =>
    have HV := Lib.hid (HW.out (.inr (by unfold dkD; rw [decide_eq_false h1]; rfl)))
    clear hps
    go_wp2
    go_ret
    rw [HV.out]
    exact ⟨rfl, hbw3⟩
  have hb8 := UInt8.toNat_lt x2[0]
  have hw8f : ∀ tt : Int, (x2[0].toNat : Int) - 48 = tt → 0 ≤ tt → tt ≤ 9 → IntKind.u8.wrap ((x2[0].toNat : Int) - 48) = tt := fun tt htt _ _ => by rw [htt]; exact IntWalk.u8_in tt (by omega)
  by_cases h48 : (x2[0].toNat : Int) < 48
  · have HV := Lib.hid (HW.out (.inr (dkD_no h1 (.inl h48))))
    clear hps
    go_wp2
    go_ret
    rw [HV.out]
    exact ⟨rfl, hbw3⟩
  by_cases h57 : 57 < (x2[0].toNat : Int)
  · have HV := Lib.hid (HW.out (.inr (dkD_no h1 (.inr (.inl h57)))))
    clear hps
    go_wp2
    go_ret
    rw [HV.out]
    exact ⟨rfl, hbw3⟩
  by_cases hle : ((rdL x1).length : Int) < (x2[0].toNat : Int) - 48
  · have HV := Lib.hid (HW.out (.inr (dkD_no h1 (.inr (.inr hle)))))
    clear hps
    go_wp2
    go_ret
    rw [HV.out]
    exact ⟨rfl, hbw3⟩
  · have hyes := dkD_yes h1 (by omega) (by omega) (show (x2[0].toNat : Int) - 48 ≤ ((rdL x1).length : Int) by omega)
    have hany := HYES.out hps hyes.1
    rw [hyes.2] at hany
    have hok : okM (rdL x1) = true ∧ okS (rdL x1) (psR x3) = true := by unfold psB at hps; rw [Bool.and_eq_true] at hps; exact hps
    have hokm := hok.1
    have hdk := dk_facts hok.1 hok.2 (show 0 ≤ (x2[0].toNat : Int) - 48 by omega) (show (x2[0].toNat : Int) - 48 ≤ ((rdL x1).length : Int) by omega)
    obtain ⟨tt, htt⟩ : ∃ tt : Int, (x2[0].toNat : Int) - 48 = tt := ⟨_, rfl⟩
    rw [htt] at hany hdk
    have ht0 : 0 ≤ tt ∧ tt ≤ 9 := by omega
    have htl : tt ≤ ((rdL x1).length : Int) := by omega
    have hok' := okM_len hok.1
    have hw8 := hw8f tt htt ht0.1 ht0.2
    clear hw8f htt
    clear hps hyes hok
    have hV : anW x0 x1 x2 x3 = stT (trL (rdL x1) (psR x3) tt) := by rw [hany]; unfold dkV; rw [if_neg (by decide), if_neg (by decide)]
    have HV := Lib.hid hV
    have hso := su_okS hokm hdk.2.1
    have HSO := Lib.hid hso.2
    have hsl := hso.1
    clear hV hdk hany hso
    go_wp2_with fail
    refine (s_TrimSuite (hm3.ri) (by omega) hR.rii (by omega) HRG.out (by omega) (by omega) (by omega) (by omega)).mono ?_
    rintro e w4 ⟨ga, gc4, rfl, g4, b4⟩
    have BB := hbw3.trans (b4.mono hz03)
    go_wp2_with fail
    refine (s_suiteText g4.rii (by omega) HSO.out).mono ?_
    rintro e w5 ⟨rfl, d5⟩
    have b5 := Dr.below d5 w.heap.size
    go_wp2
    go_ret
    rw [HV.out]
    exact ⟨rfl, BB.trans b5⟩
set_option maxRecDepth 100000 in
set_option maxHeartbeats 4000000 in
theorem s_answer {line : ByteArray} {w : World} (hs : line.size ≤ 1048576) : Calls Tryz.prog 12 #[.string line] w (NewV w (.string (anS line))) := by
  by_cases h4 : (pcs 32 line).length = 4
  case neg =>
    have HV : Hid (anS line = whatS) := anX_len h4
    obtain ⟨X, hX⟩ : ∃ X, pcs 32 line = X := ⟨_, rfl⟩
    have hXl := pcs_len 32 line
    rw [hX] at h4 hXl
    have HX := Lib.hid hX
    clear hX
    have h4i : ((X.length : Int) == 4) = false := by rw [beq_eq_false_iff_ne]; omega
    go_enter Tryz.func12, Tryz.ntmps12
    go_wp2_with fail
    refine (s_splitAt (c := 32) (by omega) rfl).mono ?_
    rintro e w1 ⟨v1, rfl, hv1, ho1, hb1⟩
    rw [HX.out] at ho1
    obtain ⟨g, gc, rfl, hg, hgc, hcs⟩ := ho1.text hv1
    clear hcs ho1 hv1
    go_wp2
    go_ret
    rw [HV.out]
    exact ⟨rfl, hb1⟩
  obtain ⟨x0, x1, x2, x3, hX⟩ := four h4
  have e : anS line = anW x0 x1 x2 x3 := by unfold anS; rw [hX]; rfl
  rw [e]
  rcases dk_cases x0 with ⟨hk, hc⟩ | ⟨hk, hc⟩ | ⟨hk, hc⟩ | ⟨hk, hc⟩
  · exact s_answer0 hs hX hk hc
  · exact s_answer1 hs hX hk hc
  · exact s_answer2 hs hX hk hc
  · have HV : Hid (anW x0 x1 x2 x3 = whatS) := by show _ = _; unfold anW; rw [if_pos hk]
    have HX := Lib.hid hX
    obtain ⟨e0, e1, e2⟩ := hc
    clear hX e h4
    go_enter Tryz.func12, Tryz.ntmps12
    go_wp2_with fail
    refine (s_splitAt (c := 32) (by omega) rfl).mono ?_
    rintro e w1 ⟨v1, rfl, hv1, ho1, hb1⟩
    rw [HX.out] at ho1
    obtain ⟨g, gc, rfl, hg, hgc, hcs⟩ := ho1.text hv1
    have c0 := hcs 0 x0 rfl
    simp only [Nat.zero_add] at c0
    have i0 : ∀ wx : World, (Instr.indexAt 22 (.slice (some ⟨g, 0, none⟩) 4 gc) (.int .i64 0)).run Tryz.prog wx = .ok (.pointer (some ⟨g, 0, none⟩)) wx := fun wx => idxSt (a := some ⟨g, 0, none⟩) (len := 4) (k := 0) rfl (by omega) gc wx
    clear hcs ho1 hv1
    go_wp2
    go_ret
    rw [HV.out]
    exact ⟨rfl, hb1⟩

/- The desk by the document's reference: plain facts; the loop. -/
open Go.RowKit

/-- the answers to lines -/
def dkT (X : List ByteArray) : ByteArray := ⟨(X.flatMap fun l => (anS l).data.toList ++ [10]).toArray⟩
def rdT (X : List ByteArray) : ByteArray := if 20 < X.length then ⟨#[]⟩ else dkT X
theorem dkT_nil : dkT [] = ⟨#[]⟩ := rfl
theorem dkT_snoc (X : List ByteArray) (l : ByteArray) : dkT (X ++ [l]) = dkT X ++ anS l ++ ⟨#[10]⟩ := by
  unfold dkT; apply ByteArray.ext; simp
theorem dkV_size {k : Nat} {m : List Int} {L : List (List Int)} {t : Int} (hm : okM m = true) (hs : okS m L = true) (h0 : 0 ≤ t) (h1 : t ≤ m.length) : (dkV k m L t).size ≤ 4096 := by
  obtain ⟨⟨a, b, ha, hb, ha4, hb4⟩, h2, h3⟩ := dk_facts hm hs h0 h1
  have st : ∀ {L' : List (List Int)}, okS m L' = true → (stT L').size ≤ 4096 := fun {L'} h => by
    have h4 := su_okS hm h
    have h5 := stT_size (ps := L') fun p hp => (h4.2 p hp).1
    omega
  unfold dkV
  split
  · rw [ha, hb, ByteArray.size_append, ByteArray.size_append]
    have z1 := @nm_size a
    have z2 := @nm_size b
    have : (⟨#[47]⟩ : ByteArray).size = 1 := rfl
    omega
  · split
    · split
      · rename_i hg; exact st (h3 hg)
      · decide
    · exact st h2
theorem anS_size (line : ByteArray) : (anS line).size ≤ 4096 := by
  unfold anS
  by_cases h4 : (pcs 32 line).length = 4
  case neg => rw [anX_len h4]; decide
  obtain ⟨x0, x1, x2, x3, hX⟩ := four h4
  rw [hX]
  show (anW x0 x1 x2 x3).size ≤ _
  unfold anW
  split
  · decide
  · split
    · rename_i h
      rw [Bool.and_eq_true] at h
      have hp := h.1
      have hd := h.2
      unfold psB at hp
      unfold dkD at hd
      rw [Bool.and_eq_true] at hp
      rw [Bool.and_eq_true, Bool.and_eq_true, Bool.and_eq_true, decide_eq_true_eq, decide_eq_true_eq, decide_eq_true_eq, decide_eq_true_eq] at hd
      exact dkV_size hp.1 hp.2 (by unfold dkN; omega) (by unfold dkN; omega)
    · decide
theorem dkT_size : ∀ (X : List ByteArray), (dkT X).size ≤ 4097 * X.length := by
  intro X
  induction h : X.length generalizing X with
  | zero => rw [List.eq_nil_of_length_eq_zero h]; decide
  | succ n ih =>
    obtain ⟨Y, y, rfl⟩ : ∃ Y y, X = Y ++ [y] := ⟨X.dropLast, X.getLast (by intro e; rw [e] at h; simp at h), (List.dropLast_concat_getLast _).symm⟩
    have hn : Y.length = n := by simp at h; exact h
    have h1 := ih Y hn
    have h2 := anS_size y
    rw [dkT_snoc, ByteArray.size_append, ByteArray.size_append]
    have : (⟨#[10]⟩ : ByteArray).size = 1 := rfl
    omega

/-- a slice of texts -/
def RSt (w : World) (hi : Nat) (a : Option Addr) (X : List ByteArray) : Prop := ∀ (k : Nat) (p : ByteArray), X[k]? = some p → ∃ b o, a = some ⟨b, o, none⟩ ∧ b < hi ∧ w.cell? ⟨b, o + k, none⟩ = some (.string p)
theorem RSt.below {w w' : World} {hi B : Nat} {a : Option Addr} {X : List ByteArray} (h : RSt w hi a X) (hb : Below B w w') (hB : hi ≤ B) : RSt w' hi a X := fun k p e => by
  obtain ⟨b, o, ha, hl, hc⟩ := h k p e
  exact ⟨b, o, ha, hl, (hb.cell (p := ⟨b, o + k, none⟩) (by show b < _; omega)).trans hc⟩
theorem RSt.take {w : World} {hi : Nat} {a : Option Addr} {X : List ByteArray} (h : RSt w hi a X) (n : Nat) : RSt w hi a (X.take n) := fun k p e => by
  rw [List.getElem?_take] at e
  split at e
  · exact h k p e
  · cases e

set_option maxRecDepth 100000 in
set_option maxHeartbeats 2000000 in
theorem s_RunDesk {X : List ByteArray} {a : Option Addr} {c hi : Nat} {w : World} (hX : RSt w hi a X) (hl : X.length ≤ 9223372036854775807) (hs : ∀ p ∈ X, p.size ≤ 1048576) (hB : hi ≤ w.heap.size) :
    Calls Tryz.prog 6 #[.slice a X.length c] w (NewV w (.string (rdT X))) := by
  have HS := Lib.hid hs; clear hs
  have HT : Hid (∀ k, (dkT (X.take k)).size ≤ 4097 * k) := fun k => by have h := dkT_size (X.take k); rw [List.length_take] at h; omega
  by_cases h20 : 20 < X.length
  · have HR : Hid (rdT X = ⟨#[]⟩) := by show _ = _; unfold rdT; rw [if_pos h20]
    go_enter Tryz.func6, Tryz.ntmps6
    go_wp2
    go_ret
    rw [HR.out]
    exact ⟨rfl, Below.refl _ _⟩
  · have HR : Hid (rdT X = dkT X) := by show _ = _; unfold rdT; rw [if_neg h20]
    go_enter Tryz.func6, Tryz.ntmps6
    go_wp2
    go_loopw [3, 4] (fun v i wr => ∃ (k : Nat) (s : ByteArray), k ≤ X.length ∧ i = .int .i64 k ∧ v = .string s ∧ s.size ≤ 4097 * k ∧ Hid (s = dkT (X.take k)) ∧ Below w.heap.size w wr) (fun _ i _ => X.length - (intOf i).toNat)
    case atStart => exact ⟨0, ⟨#[]⟩, Nat.zero_le _, rfl, rfl, by decide, rfl, Below.refl _ _⟩
    case round =>
      obtain ⟨k, s, hk, rfl, rfl, hss, hS, hb⟩ := hrel
      by_cases hlt : k < X.length
      · obtain ⟨p, hp⟩ := at_of_lt hlt
        obtain ⟨b, o, ha, hbl, hcell⟩ := hX.below hb hB k p hp
        have hidx := idxSt ha hlt c
        have hps := HS.out p (List.mem_of_getElem? hp)
        have hz := hb.size
        have HS2 : Hid (s ++ anS p ++ ⟨#[10]⟩ = dkT (X.take (k + 1))) := by show _ = _; rw [take_snoc hp, dkT_snoc, hS.out]
        have HQ := Lib.hid (anS_size p)
        clear ha hp hX
        go_wp2_with fail
        refine (s_answer (line := p) hps).mono ?_
        rintro e w2 ⟨rfl, b2⟩
        obtain ⟨q, hq⟩ : ∃ q, anS p = q := ⟨_, rfl⟩
        have hqs : q.size ≤ 4096 := by rw [← hq]; exact HQ.out
        rw [hq] at HS2
        rw [hq]
        clear hq HQ
        go_wp2
        go_roundw
        case rel => exact ⟨k + 1, _, by omega, by go_num, rfl, by rw [HS2.out]; exact HT.out (k + 1), HS2, hb.trans (b2.mono hz)⟩
        case measure => simp [intOf]; omega
      · go_wp2
        go_ret
        have h := hS.out
        rw [List.take_of_length_le (by omega)] at h
        rw [HR.out]
        exact ⟨by rw [← h]; rfl, hb⟩

end Go.Proofs.YtpioldgpfpmjiaaGreatDoor
