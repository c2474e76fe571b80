/- The answers of a desk: plain facts; walks of the document's reference. -/
import Derived.Test.YtpioldgpfpmjiaaGreatDoorKl
import Derived.Test.YtpioldgpfpmjiaaGreatDoorKh
import Derived.Test.YtpioldgpfpmjiaaGreatDoorYi
import Derived.Test.YtpioldgpfpmjiaaGreatDoorVb
import Derived.Lib.ItoaNum
import Derived.Test.YtpioldgpfpmjiaaGreatDoorUv
import Derived.Shelf.LaysM
import Derived.Shelf.Strconv.Itoa3
import Derived.Lib.SmallJoins
import Derived.Test.YtpioldgpfpmjiaaGreatDoorUx
import Derived.Test.YtpioldgpfpmjiaaGreatDoorYj
import Derived.Deep.RegionHeld3
import Derived.Test.YtpioldgpfpmjiaaGreatDoorMem
import Derived.WalkKit
import Derived.LaidEql
import Derived.Stop.Asserts
import Derived.RowKitTokens
import Derived.Test.YtpioldgpfpmjiaaGreatDoorWi
import Derived.Laws.ResultCell
import Derived.Deep.OwnRows
namespace Go.Proofs.YtpioldgpfpmjiaaGreatDoor
open Go.RowKit

def covS : ByteArray := ⟨#[99, 111, 118, 101, 114, 101, 100]⟩
def groS : ByteArray := ⟨#[103, 114, 111, 119]⟩
def triS : ByteArray := ⟨#[116, 114, 105, 109]⟩
def whatS : ByteArray := ⟨#[119, 104, 97, 116]⟩
def wrongS : ByteArray := ⟨#[119, 114, 111, 110, 103]⟩
def noneS : ByteArray := ⟨#[110, 111, 110, 101]⟩
/-- which word a text is; 3: none -/
def dkK (s : ByteArray) : Nat := if s = covS then 0 else if s = groS then 1 else if s = triS then 2 else 3
def nmS (n : Int) : ByteArray := ⟨(Lib.itoa n).toArray⟩
/-- one digit, at most n -/
def dkD (q : ByteArray) (n : Nat) : Bool := decide (q.size = 1) && decide (48 ≤ (q.data.toList.headD 0).toNat) && decide ((q.data.toList.headD 0).toNat ≤ 57) && decide ((q.data.toList.headD 0).toNat ≤ n + 48)
def dkN (q : ByteArray) : Int := ((q.data.toList.headD 0).toNat : Int) - 48
def dkV (k : Nat) (m : List Int) (L : List (List Int)) (t : Int) : ByteArray :=
  if k = 0 then nmS (covA m L t) ++ ⟨#[47]⟩ ++ nmS (covB m L t) else if k = 1 then (if gsB m L t then stT (gsL m L t) else noneS) else stT (trL m L t)
def anW (w0 w1 w2 w3 : ByteArray) : ByteArray := if dkK w0 = 3 then whatS else if psB (rdL w1) w3 && dkD w2 (rdL w1).length then dkV (dkK w0) (rdL w1) (psR w3) (dkN w2) else wrongS
def anX : List ByteArray → ByteArray
  | [w0, w1, w2, w3] => anW w0 w1 w2 w3
  | _ => whatS
def anS (line : ByteArray) : ByteArray := anX (pcs 32 line)
theorem anX_len {X : List ByteArray} (h : X.length ≠ 4) : anX X = whatS := by
  unfold anX
  split
  · simp at h
  · rfl

/-- what a word compares as -/
def dkC (s : ByteArray) (a b c : Bool) : Prop := (s.toList == [99, 111, 118, 101, 114, 101, 100]) = a ∧ (s.toList == [103, 114, 111, 119]) = b ∧ (s.toList == [116, 114, 105, 109]) = c
theorem toList_ne {s c : ByteArray} (h : s ≠ c) : (s.toList == c.toList) = false := by
  rw [beq_eq_false_iff_ne]; intro e
  rw [Lib.toList_data, Lib.toList_data] at e
  refine h ?_
  obtain ⟨⟨l⟩⟩ := s
  obtain ⟨⟨r⟩⟩ := c
  have e2 : l = r := e
  rw [e2]
theorem dk_cases (s : ByteArray) : (dkK s = 0 ∧ dkC s true false false) ∨ (dkK s = 1 ∧ dkC s false true false) ∨ (dkK s = 2 ∧ dkC s false false true) ∨ (dkK s = 3 ∧ dkC s false false false) := by
  unfold dkK
  by_cases h0 : s = covS
  · subst h0; exact .inl ⟨rfl, by unfold dkC; rw [Lib.toList_data]; decide +kernel⟩
  by_cases h1 : s = groS
  · subst h1; exact .inr (.inl ⟨rfl, by unfold dkC; rw [Lib.toList_data]; decide +kernel⟩)
  by_cases h2 : s = triS
  · subst h2; exact .inr (.inr (.inl ⟨rfl, by unfold dkC; rw [Lib.toList_data]; decide +kernel⟩))
  · rw [if_neg h0, if_neg h1, if_neg h2]
    have e0 := toList_ne h0
    have e1 := toList_ne h1
    have e2 := toList_ne h2
    rw [Lib.toList_data covS] at e0
    rw [Lib.toList_data groS] at e1
    rw [Lib.toList_data triS] at e2
    exact .inr (.inr (.inr ⟨rfl, e0, e1, e2⟩))

theorem nm_small : ∀ n : Nat, n < 10 → nmS n = (⟨#[48, 49, 50, 51, 52, 53, 54, 55, 56, 57]⟩ : ByteArray).extract n (n + 1) := by
  intro n h
  have e : nmS n = ⟨#[UInt8.ofNat (48 + n)]⟩ := by
    unfold nmS Lib.itoa
    rw [if_neg (by omega), Int.toNat_natCast, Lib.decDigits, dif_pos h]
  rw [e]
  revert n
  decide +kernel
theorem nm_big {n : Nat} (h : ¬ n < 10) : nmS n = nmS (n / 10 : Nat) ++ nmS (n % 10 : Nat) := by
  have h2 : n % 10 < 10 := Nat.mod_lt _ (by decide)
  unfold nmS Lib.itoa
  rw [if_neg (by omega), if_neg (by omega), if_neg (by omega), Int.toNat_natCast, Int.toNat_natCast, Int.toNat_natCast, Lib.decDigits, dif_neg h, show Lib.decDigits (n % 10) = [UInt8.ofNat (48 + n % 10)] from by rw [Lib.decDigits, dif_pos h2]]
  apply ByteArray.ext
  simp
theorem nm_size {n : Nat} : (nmS n).size ≤ n + 1 := by
  induction n using Nat.strongRecOn with
  | _ n ih =>
    by_cases h : n < 10
    · unfold nmS Lib.itoa
      rw [if_neg (by omega), Int.toNat_natCast, Lib.decDigits, dif_pos h]
      show _ ≤ n + 1
      simp [ByteArray.size]
    · rw [nm_big h, ByteArray.size_append]
      have h1 := ih (n / 10) (by omega)
      have h2 : (nmS (n % 10 : Nat)).size ≤ 1 := by
        unfold nmS Lib.itoa
        rw [if_neg (by omega), Int.toNat_natCast, Lib.decDigits, dif_pos (Nat.mod_lt _ (by decide))]
        simp [ByteArray.size]
      omega

set_option maxRecDepth 100000 in
set_option maxHeartbeats 2000000 in
theorem s_number : ∀ (n : Nat) (w : World), n ≤ 100000 → Calls Tryz.prog 30 #[.int .i64 (n : Int)] w (RO w (.string (nmS n))) := by
  intro n
  induction n using Nat.strongRecOn with
  | _ n ih =>
    intro w hn
    have HIH := Lib.hid ih; clear ih
    by_cases h : n < 10
    · have HN := Lib.hid (nm_small n h)
      go_enter Tryz.func30, Tryz.ntmps30
      go_wp2
      go_ret
      rw [HN.out]
      exact RO.same _ _
    · have HN := Lib.hid (nm_big h)
      obtain ⟨a, ha⟩ : ∃ a, n / 10 = a := ⟨_, rfl⟩
      obtain ⟨b, hb⟩ : ∃ b, n % 10 = b := ⟨_, rfl⟩
      have han : a < n := by omega
      have hbn : b < n := by omega
      have H10 : Hid ((n : Int) / 10 = (a : Int)) := by show _ = _; omega
      have HR10 : Hid ((n : Int) % 10 = (b : Int)) := by show _ = _; omega
      rw [ha, hb] at HN
      have z1 := @nm_size a
      have z2 := @nm_size b
      clear ha hb
      go_enter Tryz.func30, Tryz.ntmps30
      go_wp2_with fail
      go_simp
      rw [H10.out]
      refine (HIH.out a han w (by omega)).mono ?_
      rintro e w1 ⟨rfl, d1⟩
      have d1 : Dr w w1 := d1
      go_wp2_with fail
      try go_simp
      rw [HR10.out]
      refine (HIH.out b hbn w1 (by omega)).mono ?_
      rintro e w2 ⟨rfl, d2⟩
      have d2 : Dr w1 w2 := d2
      go_wp2
      go_ret
      rw [HN.out]
      exact ⟨rfl, d1.trans d2⟩

theorem dk_facts {m : List Int} {L : List (List Int)} {t : Int} (hm : okM m = true) (hs : okS m L = true) (h0 : 0 ≤ t) (h1 : t ≤ m.length) :
    (∃ a b : Nat, covA m L t = a ∧ covB m L t = b ∧ a ≤ 1024 ∧ b ≤ 1024) ∧ okS m (trL m L t) = true ∧ (gsB m L t = true → okS m (gsL m L t) = true) := by
  have hc : okC m L t = true := by unfold okC; rw [hm, hs, inR_true.2 ⟨h0, h1⟩]; rfl
  refine ⟨?_, ?_, fun hg => ?_⟩
  · have h2 := cov_yes hc
    have h3 := patS_len hm t (head := [])
    have h4 : (misL m L t).length ≤ (patS m [] t).length := by unfold misL misP; exact List.length_filter_le _ _
    exact ⟨(patS m [] t).length - (misL m L t).length, (patS m [] t).length, by rw [h2.1]; omega, h2.2, by omega, h3⟩
  · have h2 := (tr_law hc).2.2.2.2
    unfold okC at h2
    rw [Bool.and_eq_true, Bool.and_eq_true] at h2
    exact h2.1.2
  · have h2 := (gs_facts hg).2.2.2.1
    unfold icB okC at h2
    rw [Bool.and_eq_true, Bool.and_eq_true, Bool.and_eq_true] at h2
    exact h2.1.1.2
theorem four {X : List ByteArray} (h : X.length = 4) : ∃ x0 x1 x2 x3, X = [x0, x1, x2, x3] := by
  match X, h with
  | [x0, x1, x2, x3], _ => exact ⟨_, _, _, _, rfl⟩
theorem su_okS {m : List Int} {L : List (List Int)} (hm : okM m = true) (hs : okS m L = true) : L.length ≤ 20 ∧ ∀ p ∈ L, p.length ≤ 5 ∧ ∀ (k : Nat) (x : Int), p[k]? = some x → -1 ≤ x ∧ x ≤ 2 :=
  ⟨okS_len hs, fun _ hp => (su_rows hm hs hp).2⟩
/-- the byte of a text of one byte -/
theorem one_at {q : ByteArray} (h : q.size = 1) : q.data.toList.headD 0 = q[0] := by
  obtain ⟨⟨l⟩⟩ := q
  match l, h with
  | [x], _ => rfl
theorem dkD_no {q : ByteArray} {n : Nat} (h : q.size = 1) (h2 : (q[0].toNat : Int) < 48 ∨ 57 < (q[0].toNat : Int) ∨ (n : Int) < (q[0].toNat : Int) - 48) : dkD q n = false := by
  unfold dkD
  rw [one_at h]
  rcases h2 with h2 | h2 | h2
  · rw [decide_eq_false (show ¬ 48 ≤ q[0].toNat by omega)]; simp
  · rw [decide_eq_false (show ¬ q[0].toNat ≤ 57 by omega)]; simp
  · rw [decide_eq_false (show ¬ q[0].toNat ≤ n + 48 by omega)]; simp
theorem dkD_yes {q : ByteArray} {n : Nat} (h : q.size = 1) (h1 : 48 ≤ (q[0].toNat : Int)) (h2 : (q[0].toNat : Int) ≤ 57) (h3 : (q[0].toNat : Int) - 48 ≤ (n : Int)) : dkD q n = true ∧ dkN q = (q[0].toNat : Int) - 48 := by
  unfold dkD dkN
  rw [one_at h, decide_eq_true h, decide_eq_true (show 48 ≤ q[0].toNat by omega), decide_eq_true (show q[0].toNat ≤ 57 by omega), decide_eq_true (show q[0].toNat ≤ n + 48 by omega)]
  exact ⟨rfl, rfl⟩
theorem an_wrong {x0 x1 x2 x3 : ByteArray} (hk : dkK x0 ≠ 3) (h : psB (rdL x1) x3 = false ∨ dkD x2 (rdL x1).length = false) : anW x0 x1 x2 x3 = wrongS := by
  unfold anW
  rw [if_neg hk]
  rcases h with h | h <;> rw [h] <;> simp
theorem an_yes {x0 x1 x2 x3 : ByteArray} (hk : dkK x0 ≠ 3) (h : psB (rdL x1) x3 = true) (h' : dkD x2 (rdL x1).length = true) : anW x0 x1 x2 x3 = dkV (dkK x0) (rdL x1) (psR x3) (dkN x2) := by
  unfold anW
  rw [if_neg hk, h, h']; rfl

set_option maxRecDepth 100000 in
set_option maxHeartbeats 8000000 in
theorem s_answer0 {line x0 x1 x2 x3 : ByteArray} {w : World} (hs : line.size ≤ 1048576) (hX : pcs 32 line = [x0, x1, x2, x3]) (hk : dkK x0 = 0) (hc : dkC x0 true false false) :
    Calls Tryz.prog 12 #[.string line] w (NewV w (.string (anW x0 x1 x2 x3))) := by
  have HX := Lib.hid hX
  have hsz : ∀ p ∈ pcs 32 line, p.size ≤ line.size := fun p hp => pcs_size hp
  rw [hX] at hsz
  have hz1 := hsz x1 (by simp)
  have hz3 := hsz x3 (by simp)
  have hlm := rdL_len x1
  have hRL := psR_len x3
  have HRG : Hid (∀ r ∈ psR x3, r.length ≤ 9223372036854775807) := fun r hr => by have := psR_row hr; omega
  have HW : Hid (psB (rdL x1) x3 = false ∨ dkD x2 (rdL x1).length = false → anW x0 x1 x2 x3 = wrongS) := fun h => an_wrong (by rw [hk]; decide) h
  have HYES : Hid (psB (rdL x1) x3 = true → dkD x2 (rdL x1).length = true → anW x0 x1 x2 x3 = dkV 0 (rdL x1) (psR x3) (dkN x2)) := fun h h' => by rw [← hk]; exact an_yes (by rw [hk]; decide) h h'
  obtain ⟨e0, e1, e2⟩ := hc
  have hml : (rdL x1).length ≤ 1048576 := by omega
  clear hX hsz hk hlm
  go_enter Tryz.func12, Tryz.ntmps12
  go_wp2_with fail
  refine (s_splitAt (c := 32) (by omega) rfl).mono ?_
  rintro e w1 ⟨v1, rfl, hv1, ho1, hb1⟩
  rw [HX.out] at ho1
  obtain ⟨g, gc, rfl, hg, hgc, hcs⟩ := ho1.text hv1
  have c0 := hcs 0 x0 rfl
  have c1 := hcs 1 x1 rfl
  have c2 := hcs 2 x2 rfl
  have c3 := hcs 3 x3 rfl
  simp only [Nat.zero_add] at c0 c1 c2 c3
  have i0 := fun wx => idxSt (a := some ⟨g, 0, none⟩) (len := 4) (k := 0) rfl (by omega) gc wx
  have i1 := fun wx => idxSt (a := some ⟨g, 0, none⟩) (len := 4) (k := 1) rfl (by omega) gc wx
  have i2 := fun wx => idxSt (a := some ⟨g, 0, none⟩) (len := 4) (k := 2) rfl (by omega) gc wx
  have i3 := fun wx => idxSt (a := some ⟨g, 0, none⟩) (len := 4) (k := 3) rfl (by omega) gc wx
  simp only [Nat.zero_add] at i0 i1 i2 i3
  have i0' : ∀ wx : World, (Instr.indexAt 22 (.slice (some ⟨g, 0, none⟩) 4 gc) (.int .i64 0)).run Tryz.prog wx = .ok (.pointer (some ⟨g, 0, none⟩)) wx := i0
  have i1' : ∀ wx : World, (Instr.indexAt 22 (.slice (some ⟨g, 0, none⟩) 4 gc) (.int .i64 1)).run Tryz.prog wx = .ok (.pointer (some ⟨g, 1, none⟩)) wx := i1
  have i2' : ∀ wx : World, (Instr.indexAt 22 (.slice (some ⟨g, 0, none⟩) 4 gc) (.int .i64 2)).run Tryz.prog wx = .ok (.pointer (some ⟨g, 2, none⟩)) wx := i2
  have i3' : ∀ wx : World, (Instr.indexAt 22 (.slice (some ⟨g, 0, none⟩) 4 gc) (.int .i64 3)).run Tryz.prog wx = .ok (.pointer (some ⟨g, 3, none⟩)) wx := i3
  have y1 := hb1.size
  clear ho1 hv1 hcs i0 i1 i2 i3
  go_wp2_with fail
  refine (s_readDigits (s := x1) (by omega)).mono ?_
  rintro e w2 ⟨ma, mc, rfl, hm, hb2⟩
  have y2 := hb2.size
  have k0 := (hb2.cell (p := ⟨g, 0, none⟩) (by show g < _; omega)).trans c0
  have k2 := (hb2.cell (p := ⟨g, 2, none⟩) (by show g < _; omega)).trans c2
  have k3 := (hb2.cell (p := ⟨g, 3, none⟩) (by show g < _; omega)).trans c3
  have hbw2 := hb1.trans (hb2.mono y1)
  clear c0 c1 c2 c3 hb1 hb2
  go_wp2_with fail
  refine (s_parseSuite (m := rdL x1) (s := x3) hm.ri (by omega) (by omega) (Nat.le_refl _)).mono ?_
  rintro e w3 ⟨ra, rc, rfl, hR, hb3⟩
  have y3 := hb3.size
  have q0 := (hb3.cell (p := ⟨g, 0, none⟩) (by show g < _; omega)).trans k0
  have q2 := (hb3.cell (p := ⟨g, 2, none⟩) (by show g < _; omega)).trans k2
  have hbw3 := hbw2.trans (hb3.mono (by omega))
  have hm3 := hm.below hb3 (by omega)
  have hz03 := hbw3.size
  clear k0 k2 k3 hb3 hbw2 hm
  cases hps : psB (rdL x1) x3
  · have HV := Lib.hid (HW.out (.inl hps))
    have HPS := Lib.hid hps; clear hps
    go_wp2
    go_ret
    rw [HV.out]
    exact ⟨rfl, hbw3⟩
  have HPS := Lib.hid hps
  by_cases h1 : x2.size = 1
  case neg =>
    have HV := Lib.hid (HW.out (.inr (by unfold dkD; rw [decide_eq_false h1]; rfl)))
    clear hps
    go_wp2
    go_ret
    rw [HV.out]
    exact ⟨rfl, hbw3⟩
  have hb8 := UInt8.toNat_lt x2[0]
  have hw8f : ∀ tt : Int, (x2[0].toNat : Int) - 48 = tt → 0 ≤ tt → tt ≤ 9 → IntKind.u8.wrap ((x2[0].toNat : Int) - 48) = tt := fun tt htt _ _ => by rw [htt]; exact IntWalk.u8_in tt (by omega)
  by_cases h48 : (x2[0].toNat : Int) < 48
  · have HV := Lib.hid (HW.out (.inr (dkD_no h1 (.inl h48))))
    clear hps
    go_wp2
    go_ret
    rw [HV.out]
    exact ⟨rfl, hbw3⟩
  by_cases h57 : 57 < (x2[0].toNat : Int)
  · have HV := Lib.hid (HW.out (.inr (dkD_no h1 (.inr (.inl h57)))))
    clear hps
    go_wp2
    go_ret
    rw [HV.out]
    exact ⟨rfl, hbw3⟩
  by_cases hle : ((rdL x1).length : Int) < (x2[0].toNat : Int) - 48
  · have HV := Lib.hid (HW.out (.inr (dkD_no h1 (.inr (.inr hle)))))
    clear hps
    go_wp2
    go_ret
    rw [HV.out]
    exact ⟨rfl, hbw3⟩
  · have hyes := dkD_yes h1 (by omega) (by omega) (show (x2[0].toNat : Int) - 48 ≤ ((rdL x1).length : Int) by omega)
    have hany := HYES.out hps hyes.1
    rw [hyes.2] at hany
    have hok : okM (rdL x1) = true ∧ okS (rdL x1) (psR x3) = true := by unfold psB at hps; rw [Bool.and_eq_true] at hps; exact hps
    have hokm := hok.1
    have hdk := dk_facts hok.1 hok.2 (show 0 ≤ (x2[0].toNat : Int) - 48 by omega) (show (x2[0].toNat : Int) - 48 ≤ ((rdL x1).length : Int) by omega)
    obtain ⟨tt, htt⟩ : ∃ tt : Int, (x2[0].toNat : Int) - 48 = tt := ⟨_, rfl⟩
    rw [htt] at hany hdk
    have ht0 : 0 ≤ tt ∧ tt ≤ 9 := by omega
    have htl : tt ≤ ((rdL x1).length : Int) := by omega
    have hok' := okM_len hok.1
    have hw8 := hw8f tt htt ht0.1 ht0.2
    clear hw8f htt
    clear hps hyes hok
    obtain ⟨ca, cb, hca, hcb, hca4, hcb4⟩ := hdk.1
    have HCA := Lib.hid hca; have HCB := Lib.hid hcb
    have hV : anW x0 x1 x2 x3 = nmS ca ++ ⟨#[47]⟩ ++ nmS cb := by rw [hany]; unfold dkV; rw [if_pos rfl, hca, hcb]
    have HV := Lib.hid hV
    have z1 := @nm_size ca
    have z2 := @nm_size cb
    clear hca hcb hV hdk hany
    go_wp2_with fail
    refine (s_CoverageOf (hm3.ri) (by omega) hR.rii (by omega) HRG.out (by omega) (by omega) (by omega) (by omega)).mono ?_
    rintro e w4 ⟨rfl, b4⟩
    rw [HCA.out, HCB.out]
    go_wp2_with fail
    refine (s_number ca w4 (by omega)).mono ?_
    rintro e w5 ⟨rfl, d5⟩
    have b5 := Dr.below d5 w4.heap.size
    have y4 := b4.size
    go_wp2_with fail
    refine (s_number cb w5 (by omega)).mono ?_
    rintro e w6 ⟨rfl, d6⟩
    have b6 := Dr.below d6 w.heap.size
    have BB := (hbw3.trans (b4.mono hz03)).trans ((b5.mono (by omega)))
    go_wp2
    go_ret
    rw [HV.out]
    exact ⟨rfl, BB.trans b6⟩
set_option maxRecDepth 100000 in
set_option maxHeartbeats 8000000 in
theorem s_answer1 {line x0 x1 x2 x3 : ByteArray} {w : World} (hs : line.size ≤ 1048576) (hX : pcs 32 line = [x0, x1, x2, x3]) (hk : dkK x0 = 1) (hc : dkC x0 false true false) :
    Calls Tryz.prog 12 #[.string line] w (NewV w (.string (anW x0 x1 x2 x3))) := by
  have HX := Lib.hid hX
  have hsz : ∀ p ∈ pcs 32 line, p.size ≤ line.size := fun p hp => pcs_size hp
  rw [hX] at hsz
  have hz1 := hsz x1 (by simp)
  have hz3 := hsz x3 (by simp)
  have hlm := rdL_len x1
  have hRL := psR_len x3
  have HRG : Hid (∀ r ∈ psR x3, r.length ≤ 9223372036854775807) := fun r hr => by have := psR_row hr; omega
  have HW : Hid (psB (rdL x1) x3 = false ∨ dkD x2 (rdL x1).length = false → anW x0 x1 x2 x3 = wrongS) := fun h => an_wrong (by rw [hk]; decide) h
  have HYES : Hid (psB (rdL x1) x3 = true → dkD x2 (rdL x1).length = true → anW x0 x1 x2 x3 = dkV 1 (rdL x1) (psR x3) (dkN x2)) := fun h h' => by rw [← hk]; exact an_yes (by rw [hk]; decide) h h'
  obtain ⟨e0, e1, e2⟩ := hc
  have hml : (rdL x1).length ≤ 1048576 := by omega
  clear hX hsz hk hlm
  go_enter Tryz.func12, Tryz.ntmps12
  go_wp2_with fail
  refine (s_splitAt (c := 32) (by omega) rfl).mono ?_
  rintro e w1 ⟨v1, rfl, hv1, ho1, hb1⟩
  rw [HX.out] at ho1
  obtain ⟨g, gc, rfl, hg, hgc, hcs⟩ := ho1.text hv1
  have c0 := hcs 0 x0 rfl
  have c1 := hcs 1 x1 rfl
  have c2 := hcs 2 x2 rfl
  have c3 := hcs 3 x3 rfl
  simp only [Nat.zero_add] at c0 c1 c2 c3
  have i0 := fun wx => idxSt (a := some ⟨g, 0, none⟩) (len := 4) (k := 0) rfl (by omega) gc wx
  have i1 := fun wx => idxSt (a := some ⟨g, 0, none⟩) (len := 4) (k := 1) rfl (by omega) gc wx
  have i2 := fun wx => idxSt (a := some ⟨g, 0, none⟩) (len := 4) (k := 2) rfl (by omega) gc wx
  have i3 := fun wx => idxSt (a := some ⟨g, 0, none⟩) (len := 4) (k := 3) rfl (by omega) gc wx
  simp only [Nat.zero_add] at i0 i1 i2 i3
  have i0' : ∀ wx : World, (Instr.indexAt 22 (.slice (some ⟨g, 0, none⟩) 4 gc) (.int .i64 0)).run Tryz.prog wx = .ok (.pointer (some ⟨g, 0, none⟩)) wx := i0
  have i1' : ∀ wx : World, (Instr.indexAt 22 (.slice (some ⟨g, 0, none⟩) 4 gc) (.int .i64 1)).run Tryz.prog wx = .ok (.pointer (some ⟨g, 1, none⟩)) wx := i1
  have i2' : ∀ wx : World, (Instr.indexAt 22 (.slice (some ⟨g, 0, none⟩) 4 gc) (.int .i64 2)).run Tryz.prog wx = .ok (.pointer (some ⟨g, 2, none⟩)) wx := i2
  have i3' : ∀ wx : World, (Instr.indexAt 22 (.slice (some ⟨g, 0, none⟩) 4 gc) (.int .i64 3)).run Tryz.prog wx = .ok (.pointer (some ⟨g, 3, none⟩)) wx := i3
  have y1 := hb1.size
  clear ho1 hv1 hcs i0 i1 i2 i3
  go_wp2_with fail
  refine (s_readDigits (s := x1) (by omega)).mono ?_
  rintro e w2 ⟨ma, mc, rfl, hm, hb2⟩
  have y2 := hb2.size
  have k0 := (hb2.cell (p := ⟨g, 0, none⟩) (by show g < _; omega)).trans c0
  have k2 := (hb2.cell (p := ⟨g, 2, none⟩) (by show g < _; omega)).trans c2
  have k3 := (hb2.cell (p := ⟨g, 3, none⟩) (by show g < _; omega)).trans c3
  have hbw2 := hb1.trans (hb2.mono y1)
  clear c0 c1 c2 c3 hb1 hb2
  go_wp2_with fail
  refine (s_parseSuite (m := rdL x1) (s := x3) hm.ri (by omega) (by omega) (Nat.le_refl _)).mono ?_
  rintro e w3 ⟨ra, rc, rfl, hR, hb3⟩
  have y3 := hb3.size
  have q0 := (hb3.cell (p := ⟨g, 0, none⟩) (by show g < _; omega)).trans k0
  have q2 := (hb3.cell (p := ⟨g, 2, none⟩) (by show g < _; omega)).trans k2
  have hbw3 := hbw2.trans (hb3.mono (by omega))
  have hm3 := hm.below hb3 (by omega)
  have hz03 := hbw3.size
  clear k0 k2 k3 hb3 hbw2 hm
  cases hps : psB (rdL x1) x3
  · have HV := Lib.hid (HW.out (.inl hps))
    have HPS := Lib.hid hps; clear hps
    go_wp2
    go_ret
    rw [HV.out]
    exact ⟨rfl, hbw3⟩
  have HPS := Lib.hid hps
  by_cases h1 : x2.size = 1
  case neg =>
    have HV := Lib.hid (HW.out (.inr (by unfold dkD; rw [decide_eq_false h1]; rfl)))
    clear hps
    go_wp2
    go_ret
    rw [HV.out]
    exact ⟨rfl, hbw3⟩
  have hb8 := UInt8.toNat_lt x2[0]
  have hw8f : ∀ tt : Int, (x2[0].toNat : Int) - 48 = tt → 0 ≤ tt → tt ≤ 9 → IntKind.u8.wrap ((x2[0].toNat : Int) - 48) = tt := fun tt htt _ _ => by rw [htt]; exact IntWalk.u8_in tt (by omega)
  by_cases h48 : (x2[0].toNat : Int) < 48
  · have HV := Lib.hid (HW.out (.inr (dkD_no h1 (.inl h48))))
    clear hps
    go_wp2
    go_ret
    rw [HV.out]
    exact ⟨rfl, hbw3⟩
  by_cases h57 : 57 < (x2[0].toNat : Int)
  · have HV := Lib.hid (HW.out (.inr (dkD_no h1 (.inr (.inl h57)))))
    clear hps
    go_wp2
    go_ret
    rw [HV.out]
    exact ⟨rfl, hbw3⟩
  by_cases hle : ((rdL x1).length : Int) < (x2[0].toNat : Int) - 48
  · have HV := Lib.hid (HW.out (.inr (dkD_no h1 (.inr (.inr hle)))))
    clear hps
    go_wp2
    go_ret
    rw [HV.out]
    exact ⟨rfl, hbw3⟩
  · have hyes := dkD_yes h1 (by omega) (by omega) (show (x2[0].toNat : Int) - 48 ≤ ((rdL x1).length : Int) by omega)
    have hany := HYES.out hps hyes.1
    rw [hyes.2] at hany
    have hok : okM (rdL x1) = true ∧ okS (rdL x1) (psR x3) = true := by unfold psB at hps; rw [Bool.and_eq_true] at hps; exact hps
    have hokm := hok.1
    have hdk := dk_facts hok.1 hok.2 (show 0 ≤ (x2[0].toNat : Int) - 48 by omega) (show (x2[0].toNat : Int) - 48 ≤ ((rdL x1).length : Int) by omega)
    obtain ⟨tt, htt⟩ : ∃ tt : Int, (x2[0].toNat : Int) - 48 = tt := ⟨_, rfl⟩
    rw [htt] at hany hdk
    have ht0 : 0 ≤ tt ∧ tt ≤ 9 := by omega
    have htl : tt ≤ ((rdL x1).length : Int) := by omega
    have hok' := okM_len hok.1
    have hw8 := hw8f tt htt ht0.1 ht0.2
    clear hw8f htt
    clear hps hyes hok
    have hV1 : gsB (rdL x1) (psR x3) tt = false → anW x0 x1 x2 x3 = noneS := fun h => by rw [hany]; unfold dkV; rw [if_neg (by decide), if_pos rfl, h]; rfl
    have hV2 : gsB (rdL x1) (psR x3) tt = true → anW x0 x1 x2 x3 = stT (gsL (rdL x1) (psR x3) tt) := fun h => by rw [hany]; unfold dkV; rw [if_neg (by decide), if_pos rfl, h]; rfl
    have hgo := hdk.2.2
    cases hg : gsB (rdL x1) (psR x3) tt
    · have HG := Lib.hid hg; have HV := Lib.hid (hV1 hg)
      clear hg hV1 hV2 hgo hdk hany
      go_wp2_with fail
      refine (s_GrowSuite (hm3.ri) (by omega) hR.rii (by omega) HRG.out (by omega) (by omega) (by omega) (by omega)).mono ?_
      rintro e w4 ⟨ga, gc4, rfl, g4, b4⟩
      rw [HG.out]
      have BB := hbw3.trans (b4.mono hz03)
      go_wp2
      go_ret
      rw [HV.out]
      exact ⟨rfl, BB⟩
    · have HG := Lib.hid hg; have HV := Lib.hid (hV2 hg)
      have hso := su_okS hokm (hgo hg)
      have HSO := Lib.hid hso.2
      have hsl := hso.1
      clear hg hV1 hV2 hgo hdk hany hso
      go_wp2_with fail
      refine (s_GrowSuite (hm3.ri) (by omega) hR.rii (by omega) HRG.out (by omega) (by omega) (by omega) (by omega)).mono ?_
      rintro e w4 ⟨ga, gc4, rfl, g4, b4⟩
      rw [HG.out]
      have BB := hbw3.trans (b4.mono hz03)
      go_wp2_with fail
      refine (s_suiteText g4.rii (by omega) HSO.out).mono ?_
      rintro e w5 ⟨rfl, d5⟩
      have b5 := Dr.below d5 w.heap.size
      go_wp2
      go_ret
      rw [HV.out]
      exact ⟨rfl, BB.trans b5⟩
set_option maxRecDepth 100000 in
set_option maxHeartbeats 8000000 in
theorem s_answer2 {line x0 x1 x2 x3 : ByteArray} {w : World} (hs : line.size ≤ 1048576) (hX : pcs 32 line = [x0, x1, x2, x3]) (hk : dkK x0 = 2) (hc : dkC x0 false false true) :
    Calls Tryz.prog 12 #[.string line] w (NewV w (.string (anW x0 x1 x2 x3))) := by
  have HX := Lib.hid hX
  have hsz : ∀ p ∈ pcs 32 line, p.size ≤ line.size := fun p hp => pcs_size hp
  rw [hX] at hsz
  have hz1 := hsz x1 (by simp)
  have hz3 := hsz x3 (by simp)
  have hlm := rdL_len x1
  have hRL := psR_len x3
  have HRG : Hid (∀ r ∈ psR x3, r.length ≤ 9223372036854775807) := fun r hr => by have := psR_row hr; omega
  have HW : Hid (psB (rdL x1) x3 = false ∨ dkD x2 (rdL x1).length = false → anW x0 x1 x2 x3 = wrongS) := fun h => an_wrong (by rw [hk]; decide) h
  have HYES : Hid (psB (rdL x1) x3 = true → dkD x2 (rdL x1).length = true → anW x0 x1 x2 x3 = dkV 2 (rdL x1) (psR x3) (dkN x2)) := fun h h' => by rw [← hk]; exact an_yes (by rw [hk]; decide) h h'
  obtain ⟨e0, e1, e2⟩ := hc
  have hml : (rdL x1).length ≤ 1048576 := by omega
  clear hX hsz hk hlm
  go_enter Tryz.func12, Tryz.ntmps12
  go_wp2_with fail
  refine (s_splitAt (c := 32) (by omega) rfl).mono ?_
  rintro e w1 ⟨v1, rfl, hv1, ho1, hb1⟩
  rw [HX.out] at ho1
  obtain ⟨g, gc, rfl, hg, hgc, hcs⟩ := ho1.text hv1
  have c0 := hcs 0 x0 rfl
  have c1 := hcs 1 x1 rfl
  have c2 := hcs 2 x2 rfl
  have c3 := hcs 3 x3 rfl
  simp only [Nat.zero_add] at c0 c1 c2 c3
  have i0 := fun wx => idxSt (a := some ⟨g, 0, none⟩) (len := 4) (k := 0) rfl (by omega) gc wx
  have i1 := fun wx => idxSt (a := some ⟨g, 0, none⟩) (len := 4) (k := 1) rfl (by omega) gc wx
  have i2 := fun wx => idxSt (a := some ⟨g, 0, none⟩) (len := 4) (k := 2) rfl (by omega) gc wx
  have i3 := fun wx => idxSt (a := some ⟨g, 0, none⟩) (len := 4) (k := 3) rfl (by omega) gc wx
  simp only [Nat.zero_add] at i0 i1 i2 i3
  have i0' : ∀ wx : World, (Instr.indexAt 22 (.slice (some ⟨g, 0, none⟩) 4 gc) (.int .i64 0)).run Tryz.prog wx = .ok (.pointer (some ⟨g, 0, none⟩)) wx := i0
  have i1' : ∀ wx : World, (Instr.indexAt 22 (.slice (some ⟨g, 0, none⟩) 4 gc) (.int .i64 1)).run Tryz.prog wx = .ok (.pointer (some ⟨g, 1, none⟩)) wx := i1
  have i2' : ∀ wx : World, (Instr.indexAt 22 (.slice (some ⟨g, 0, none⟩) 4 gc) (.int .i64 2)).run Tryz.prog wx = .ok (.pointer (some ⟨g, 2, none⟩)) wx := i2
  have i3' : ∀ wx : World, (Instr.indexAt 22 (.slice (some ⟨g, 0, none⟩) 4 gc) (.int .i64 3)).run Tryz.prog wx = .ok (.pointer (some ⟨g, 3, none⟩)) wx := i3
  have y1 := hb1.size
  clear ho1 hv1 hcs i0 i1 i2 i3
  go_wp2_with fail
  refine (s_readDigits (s := x1) (by omega)).mono ?_
  rintro e w2 ⟨ma, mc, rfl, hm, hb2⟩
  have y2 := hb2.size
  have k0 := (hb2.cell (p := ⟨g, 0, none⟩) (by show g < _; omega)).trans c0
  have k2 := (hb2.cell (p := ⟨g, 2, none⟩) (by show g < _; omega)).trans c2
  have k3 := (hb2.cell (p := ⟨g, 3, none⟩) (by show g < _; omega)).trans c3
  have hbw2 := hb1.trans (hb2.mono y1)
  clear c0 c1 c2 c3 hb1 hb2
  go_wp2_with fail
  refine (s_parseSuite (m := rdL x1) (s := x3) hm.ri (by omega) (by omega) (Nat.le_refl _)).mono ?_
  rintro e w3 ⟨ra, rc, rfl, hR, hb3⟩
  have y3 := hb3.size
  have q0 := (hb3.cell (p := ⟨g, 0, none⟩) (by show g < _; omega)).trans k0
  have q2 := (hb3.cell (p := ⟨g, 2, none⟩) (by show g < _; omega)).trans k2
  have hbw3 := hbw2.trans (hb3.mono (by omega))
  have hm3 := hm.below hb3 (by omega)
  have hz03 := hbw3.size
  clear k0 k2 k3 hb3 hbw2 hm
  cases hps : psB (rdL x1) x3
  · have HV := Lib.hid (HW.out (.inl hps))
    have HPS := Lib.hid hps; clear hps
    go_wp2
    go_ret
    rw [HV.out]
    exact ⟨rfl, hbw3⟩
  have HPS := Lib.hid hps
  by_cases h1 : x2.size = 1
  case neg =>
    have HV := Lib.hid (HW.out (.inr (by unfold dkD; rw [decide_eq_false h1]; rfl)))
    clear hps
    go_wp2
    go_ret
    rw [HV.out]
    exact ⟨rfl, hbw3⟩
  have hb8 := UInt8.toNat_lt x2[0]
  have hw8f : ∀ tt : Int, (x2[0].toNat : Int) - 48 = tt → 0 ≤ tt → tt ≤ 9 → IntKind.u8.wrap ((x2[0].toNat : Int) - 48) = tt := fun tt htt _ _ => by rw [htt]; exact IntWalk.u8_in tt (by omega)
  by_cases h48 : (x2[0].toNat : Int) < 48
  · have HV := Lib.hid (HW.out (.inr (dkD_no h1 (.inl h48))))
    clear hps
    go_wp2
    go_ret
    rw [HV.out]
    exact ⟨rfl, hbw3⟩
  by_cases h57 : 57 < (x2[0].toNat : Int)
  · have HV := Lib.hid (HW.out (.inr (dkD_no h1 (.inr (.inl h57)))))
    clear hps
    go_wp2
    go_ret
    rw [HV.out]
    exact ⟨rfl, hbw3⟩
  by_cases hle : ((rdL x1).length : Int) < (x2[0].toNat : Int) - 48
  · have HV := Lib.hid (HW.out (.inr (dkD_no h1 (.inr (.inr hle)))))
    clear hps
    go_wp2
    go_ret
    rw [HV.out]
    exact ⟨rfl, hbw3⟩
  · have hyes := dkD_yes h1 (by omega) (by omega) (show (x2[0].toNat : Int) - 48 ≤ ((rdL x1).length : Int) by omega)
    have hany := HYES.out hps hyes.1
    rw [hyes.2] at hany
    have hok : okM (rdL x1) = true ∧ okS (rdL x1) (psR x3) = true := by unfold psB at hps; rw [Bool.and_eq_true] at hps; exact hps
    have hokm := hok.1
    have hdk := dk_facts hok.1 hok.2 (show 0 ≤ (x2[0].toNat : Int) - 48 by omega) (show (x2[0].toNat : Int) - 48 ≤ ((rdL x1).length : Int) by omega)
    obtain ⟨tt, htt⟩ : ∃ tt : Int, (x2[0].toNat : Int) - 48 = tt := ⟨_, rfl⟩
    rw [htt] at hany hdk
    have ht0 : 0 ≤ tt ∧ tt ≤ 9 := by omega
    have htl : tt ≤ ((rdL x1).length : Int) := by omega
    have hok' := okM_len hok.1
    have hw8 := hw8f tt htt ht0.1 ht0.2
    clear hw8f htt
    clear hps hyes hok
    have hV : anW x0 x1 x2 x3 = stT (trL (rdL x1) (psR x3) tt) := by rw [hany]; unfold dkV; rw [if_neg (by decide), if_neg (by decide)]
    have HV := Lib.hid hV
    have hso := su_okS hokm hdk.2.1
    have HSO := Lib.hid hso.2
    have hsl := hso.1
    clear hV hdk hany hso
    go_wp2_with fail
    refine (s_TrimSuite (hm3.ri) (by omega) hR.rii (by omega) HRG.out (by omega) (by omega) (by omega) (by omega)).mono ?_
    rintro e w4 ⟨ga, gc4, rfl, g4, b4⟩
    have BB := hbw3.trans (b4.mono hz03)
    go_wp2_with fail
    refine (s_suiteText g4.rii (by omega) HSO.out).mono ?_
    rintro e w5 ⟨rfl, d5⟩
    have b5 := Dr.below d5 w.heap.size
    go_wp2
    go_ret
    rw [HV.out]
    exact ⟨rfl, BB.trans b5⟩
set_option maxRecDepth 100000 in
set_option maxHeartbeats 4000000 in
theorem s_answer {line : ByteArray} {w : World} (hs : line.size ≤ 1048576) : Calls Tryz.prog 12 #[.string line] w (NewV w (.string (anS line))) := by
  by_cases h4 : (pcs 32 line).length = 4
  case neg =>
    have HV : Hid (anS line = whatS) := anX_len h4
    obtain ⟨X, hX⟩ : ∃ X, pcs 32 line = X := ⟨_, rfl⟩
    have hXl := pcs_len 32 line
    rw [hX] at h4 hXl
    have HX := Lib.hid hX
    clear hX
    have h4i : ((X.length : Int) == 4) = false := by rw [beq_eq_false_iff_ne]; omega
    go_enter Tryz.func12, Tryz.ntmps12
    go_wp2_with fail
    refine (s_splitAt (c := 32) (by omega) rfl).mono ?_
    rintro e w1 ⟨v1, rfl, hv1, ho1, hb1⟩
    rw [HX.out] at ho1
    obtain ⟨g, gc, rfl, hg, hgc, hcs⟩ := ho1.text hv1
    clear hcs ho1 hv1
    go_wp2
    go_ret
    rw [HV.out]
    exact ⟨rfl, hb1⟩
  obtain ⟨x0, x1, x2, x3, hX⟩ := four h4
  have e : anS line = anW x0 x1 x2 x3 := by unfold anS; rw [hX]; rfl
  rw [e]
  rcases dk_cases x0 with ⟨hk, hc⟩ | ⟨hk, hc⟩ | ⟨hk, hc⟩ | ⟨hk, hc⟩
  · exact s_answer0 hs hX hk hc
  · exact s_answer1 hs hX hk hc
  · exact s_answer2 hs hX hk hc
  · have HV : Hid (anW x0 x1 x2 x3 = whatS) := by show _ = _; unfold anW; rw [if_pos hk]
    have HX := Lib.hid hX
    obtain ⟨e0, e1, e2⟩ := hc
    clear hX e h4
    go_enter Tryz.func12, Tryz.ntmps12
    go_wp2_with fail
    refine (s_splitAt (c := 32) (by omega) rfl).mono ?_
    rintro e w1 ⟨v1, rfl, hv1, ho1, hb1⟩
    rw [HX.out] at ho1
    obtain ⟨g, gc, rfl, hg, hgc, hcs⟩ := ho1.text hv1
    have c0 := hcs 0 x0 rfl
    simp only [Nat.zero_add] at c0
    have i0 : ∀ wx : World, (Instr.indexAt 22 (.slice (some ⟨g, 0, none⟩) 4 gc) (.int .i64 0)).run Tryz.prog wx = .ok (.pointer (some ⟨g, 0, none⟩)) wx := fun wx => idxSt (a := some ⟨g, 0, none⟩) (len := 4) (k := 0) rfl (by omega) gc wx
    clear hcs ho1 hv1
    go_wp2
    go_ret
    rw [HV.out]
    exact ⟨rfl, hb1⟩

/- The desk by the document's reference: plain facts; the loop. -/
open Go.RowKit

/-- the answers to lines -/
def dkT (X : List ByteArray) : ByteArray := ⟨(X.flatMap fun l => (anS l).data.toList ++ [10]).toArray⟩
def rdT (X : List ByteArray) : ByteArray := if 20 < X.length then ⟨#[]⟩ else dkT X
theorem dkT_nil : dkT [] = ⟨#[]⟩ := rfl
theorem dkT_snoc (X : List ByteArray) (l : ByteArray) : dkT (X ++ [l]) = dkT X ++ anS l ++ ⟨#[10]⟩ := by
  unfold dkT; apply ByteArray.ext; simp
theorem dkV_size {k : Nat} {m : List Int} {L : List (List Int)} {t : Int} (hm : okM m = true) (hs : okS m L = true) (h0 : 0 ≤ t) (h1 : t ≤ m.length) : (dkV k m L t).size ≤ 4096 := by
  obtain ⟨⟨a, b, ha, hb, ha4, hb4⟩, h2, h3⟩ := dk_facts hm hs h0 h1
  have st : ∀ {L' : List (List Int)}, okS m L' = true → (stT L').size ≤ 4096 := fun {L'} h => by
    have h4 := su_okS hm h
    have h5 := stT_size (ps := L') fun p hp => (h4.2 p hp).1
    omega
  unfold dkV
  split
  · rw [ha, hb, ByteArray.size_append, ByteArray.size_append]
    have z1 := @nm_size a
    have z2 := @nm_size b
    have : (⟨#[47]⟩ : ByteArray).size = 1 := rfl
    omega
  · split
    · split
      · rename_i hg; exact st (h3 hg)
      · decide
    · exact st h2
theorem anS_size (line : ByteArray) : (anS line).size ≤ 4096 := by
  unfold anS
  by_cases h4 : (pcs 32 line).length = 4
  case neg => rw [anX_len h4]; decide
  obtain ⟨x0, x1, x2, x3, hX⟩ := four h4
  rw [hX]
  show (anW x0 x1 x2 x3).size ≤ _
  unfold anW
  split
  · decide
  · split
    · rename_i h
      rw [Bool.and_eq_true] at h
      have hp := h.1
      have hd := h.2
      unfold psB at hp
      unfold dkD at hd
      rw [Bool.and_eq_true] at hp
      rw [Bool.and_eq_true, Bool.and_eq_true, Bool.and_eq_true, decide_eq_true_eq, decide_eq_true_eq, decide_eq_true_eq, decide_eq_true_eq] at hd
      exact dkV_size hp.1 hp.2 (by unfold dkN; omega) (by unfold dkN; omega)
    · decide
theorem dkT_size : ∀ (X : List ByteArray), (dkT X).size ≤ 4097 * X.length := by
  intro X
  induction h : X.length generalizing X with
  | zero => rw [List.eq_nil_of_length_eq_zero h]; decide
  | succ n ih =>
    obtain ⟨Y, y, rfl⟩ : ∃ Y y, X = Y ++ [y] := ⟨X.dropLast, X.getLast (by intro e; rw [e] at h; simp at h), (List.dropLast_concat_getLast _).symm⟩
    have hn : Y.length = n := by simp at h; exact h
    have h1 := ih Y hn
    have h2 := anS_size y
    rw [dkT_snoc, ByteArray.size_append, ByteArray.size_append]
    have : (⟨#[10]⟩ : ByteArray).size = 1 := rfl
    omega

/-- a slice of texts -/
def RSt (w : World) (hi : Nat) (a : Option Addr) (X : List ByteArray) : Prop := ∀ (k : Nat) (p : ByteArray), X[k]? = some p → ∃ b o, a = some ⟨b, o, none⟩ ∧ b < hi ∧ w.cell? ⟨b, o + k, none⟩ = some (.string p)
theorem RSt.below {w w' : World} {hi B : Nat} {a : Option Addr} {X : List ByteArray} (h : RSt w hi a X) (hb : Below B w w') (hB : hi ≤ B) : RSt w' hi a X := fun k p e => by
  obtain ⟨b, o, ha, hl, hc⟩ := h k p e
  exact ⟨b, o, ha, hl, (hb.cell (p := ⟨b, o + k, none⟩) (by show b < _; omega)).trans hc⟩
theorem RSt.take {w : World} {hi : Nat} {a : Option Addr} {X : List ByteArray} (h : RSt w hi a X) (n : Nat) : RSt w hi a (X.take n) := fun k p e => by
  rw [List.getElem?_take] at e
  split at e
  · exact h k p e
  · cases e

set_option maxRecDepth 100000 in
set_option maxHeartbeats 2000000 in
theorem s_RunDesk {X : List ByteArray} {a : Option Addr} {c hi : Nat} {w : World} (hX : RSt w hi a X) (hl : X.length ≤ 9223372036854775807) (hs : ∀ p ∈ X, p.size ≤ 1048576) (hB : hi ≤ w.heap.size) :
    Calls Tryz.prog 6 #[.slice a X.length c] w (NewV w (.string (rdT X))) := by
  have HS := Lib.hid hs; clear hs
  have HT : Hid (∀ k, (dkT (X.take k)).size ≤ 4097 * k) := fun k => by have h := dkT_size (X.take k); rw [List.length_take] at h; omega
  by_cases h20 : 20 < X.length
  · have HR : Hid (rdT X = ⟨#[]⟩) := by show _ = _; unfold rdT; rw [if_pos h20]
    go_enter Tryz.func6, Tryz.ntmps6
    go_wp2
    go_ret
    rw [HR.out]
    exact ⟨rfl, Below.refl _ _⟩
  · have HR : Hid (rdT X = dkT X) := by show _ = _; unfold rdT; rw [if_neg h20]
    go_enter Tryz.func6, Tryz.ntmps6
    go_wp2
    go_loopw [3, 4] (fun v i wr => ∃ (k : Nat) (s : ByteArray), k ≤ X.length ∧ i = .int .i64 k ∧ v = .string s ∧ s.size ≤ 4097 * k ∧ Hid (s = dkT (X.take k)) ∧ Below w.heap.size w wr) (fun _ i _ => X.length - (intOf i).toNat)
    case atStart => exact ⟨0, ⟨#[]⟩, Nat.zero_le _, rfl, rfl, by decide, rfl, Below.refl _ _⟩
    case round =>
      obtain ⟨k, s, hk, rfl, rfl, hss, hS, hb⟩ := hrel
      by_cases hlt : k < X.length
      · obtain ⟨p, hp⟩ := at_of_lt hlt
        obtain ⟨b, o, ha, hbl, hcell⟩ := hX.below hb hB k p hp
        have hidx := idxSt ha hlt c
        have hps := HS.out p (List.mem_of_getElem? hp)
        have hz := hb.size
        have HS2 : Hid (s ++ anS p ++ ⟨#[10]⟩ = dkT (X.take (k + 1))) := by show _ = _; rw [take_snoc hp, dkT_snoc, hS.out]
        have HQ := Lib.hid (anS_size p)
        clear ha hp hX
        go_wp2_with fail
        refine (s_answer (line := p) hps).mono ?_
        rintro e w2 ⟨rfl, b2⟩
        obtain ⟨q, hq⟩ : ∃ q, anS p = q := ⟨_, rfl⟩
        have hqs : q.size ≤ 4096 := by rw [← hq]; exact HQ.out
        rw [hq] at HS2
        rw [hq]
        clear hq HQ
        go_wp2
        go_roundw
        case rel => exact ⟨k + 1, _, by omega, by go_num, rfl, by rw [HS2.out]; exact HT.out (k + 1), HS2, hb.trans (b2.mono hz)⟩
        case measure => simp [intOf]; omega
      · go_wp2
        go_ret
        have h := hS.out
        rw [List.take_of_length_le (by omega)] at h
        rw [HR.out]
        exact ⟨by rw [← h]; rfl, hb⟩

/- The desk of the program: what it leans on in memory; numbers' texts and builders by the library's contracts; digits, words. -/
open Go Go.Shelf Go.RowKit

def itoaRen : Ren where
  f := fun x => match x with
    | 171 => 69
    | 243 => 83
    | 246 => 100
    | 283 => 112
    | 284 => 113
    | 285 => 114
    | 286 => 115
    | 129 => 119
    | 317 => 118
    | 318 => 120
    | 319 => 121
    | 320 => 122
    | 337 => 124
    | 338 => 125
    | n => n
  t := fun x => match x with
    | 3 => 3
    | 9 => 9
    | 2 => 2
    | 4 => 4
    | 171 => 149
    | 0 => 0
    | 53 => 150
    | 37 => 28
    | 5 => 5
    | 173 => 153
    | 212 => 157
    | 51 => 146
    | 20 => 20
    | 213 => 158
    | 46 => 127
    | 232 => 163
    | 233 => 164
    | n => n
  g := fun x => match x with
    | 17 => 5
    | 18 => 6
    | 19 => 7
    | n => n

set_option maxRecDepth 100000 in
theorem itoaLays : LaysM.n171 Tryz.prog itoaRen := by
  constructor
  · constructor <;> first | kernel_rfl | (intro w; kernel_rfl)
  all_goals first | kernel_rfl | (intro w; kernel_rfl)

def bldRen : Ren where
  f := fun x => match x with
    | 166 => 13
    | 167 => 15
    | 169 => 16
    | 240 => 33
    | 276 => 46
    | n => n
  t := joinRen.t
  g := fun n => n

set_option maxRecDepth 100000 in
theorem bld166 : Lays.n166 Tryz.prog bldRen := by
  constructor <;> first | kernel_rfl | (intro w; kernel_rfl)
set_option maxRecDepth 100000 in
theorem bld167 : Lays.n167 Tryz.prog bldRen := by
  constructor <;> first | kernel_rfl | (intro w; kernel_rfl)
set_option maxRecDepth 100000 in
theorem bld169 : Lays.n169 Tryz.prog bldRen := by
  constructor <;> first | kernel_rfl | (intro w; kernel_rfl)
set_option maxRecDepth 100000 in
theorem bldExtra : Builder.Extra Tryz.prog bldRen := by
  refine { t5 := ?_, a5 := ?_, z5 := ?_, v5 := ?_, infoByte := ?_, cellsByte := ?_, sizeByte := ?_, neB5 := ?_, toX72 := ?_ } <;> first | kernel_rfl | (intro w; kernel_rfl) | (constructor <;> first | kernel_rfl | (intro w; kernel_rfl)) | decide

/-- the package's two errors, and the library's table -/
structure DeskW (w : World) (a0 a1 : Addr) : Prop where
  e0 : w.cell? ⟨0, 0, none⟩ = some (.iface 165 (.pointer (some a0)))
  e1 : w.cell? ⟨1, 0, none⟩ = some (.iface 165 (.pointer (some a1)))
  ne : a0 ≠ a1
  h0 : ∃ c t, w.heap[a0.block]? = some (.cells c t (0, 0))
  h1 : ∃ c t, w.heap[a1.block]? = some (.cells c t (0, 0))
  tab : Lib.TabIs Tryz.prog w "internal/strconv.uint64pow10" .u64 Lib.pow10Tab
theorem DeskW.below {w w' : World} {a0 a1 : Addr} {B : Nat} (h : DeskW w a0 a1) (hb : Below B w w') (hB : w.heap.size ≤ B) : DeskW w' a0 a1 where
  e0 := (hb.cell (p := ⟨0, 0, none⟩) (Nat.lt_of_lt_of_le (World.block_lt_of_cell? w _ h.e0) hB)).trans h.e0
  e1 := (hb.cell (p := ⟨1, 0, none⟩) (Nat.lt_of_lt_of_le (World.block_lt_of_cell? w _ h.e1) hB)).trans h.e1
  ne := h.ne
  h0 := by
    obtain ⟨c, t, e⟩ := h.h0
    have hl := (Array.getElem?_eq_some_iff.1 e).1
    exact ⟨c, t, (hb.block _ (by omega)).trans e⟩
  h1 := by
    obtain ⟨c, t, e⟩ := h.h1
    have hl := (Array.getElem?_eq_some_iff.1 e).1
    exact ⟨c, t, (hb.block _ (by omega)).trans e⟩
  tab := Go.Joins.tab_stays (g := 5) (by kernel_rfl) h.tab hb hB

theorem Below.grown {B : Nat} {w w' : World} (h : Below B w w') (os : Array Obj) (hB : B ≤ w'.heap.size) : Below B w (Go.Sort.grow w' os) :=
  h.trans ⟨rfl, rfl, rfl, by simp [Go.Sort.grow], fun k hk => by simp only [Go.Sort.grow]; rw [Array.getElem?_append_left (by omega)]⟩

theorem x_Itoa (n : Nat) {w : World} (hn : n ≤ 1048576) (ht : Lib.TabIs Tryz.prog w "internal/strconv.uint64pow10" .u64 Lib.pow10Tab) :
    Calls Tryz.prog 69 #[.int .i64 (n : Int)] w (NewV w (.string (nmS n))) := by
  refine (Any.strconv_Itoa itoaLays (n : Int) (by omega) (by omega) w ht).mono ?_
  rintro e w' ⟨he, k, os, hw⟩
  refine ⟨he, ?_⟩
  rw [hw]
  exact Below.grown (Dr.below ⟨k, rfl⟩ _) os (by simp)

/-- the digits of a text, or none -/
def dgC (c : UInt8) : Bool := decide (48 ≤ c.toNat) && decide (c.toNat ≤ 57)
def dgB (s : ByteArray) : Bool := s.data.toList.all dgC
def dgO (s : ByteArray) : List Int := if dgB s then rdL s else []
theorem dgO_no {s : ByteArray} {k : Nat} (h : k < s.size) (h2 : (s[k].toNat : Int) < 48 ∨ 57 < (s[k].toNat : Int)) : dgO s = [] := by
  have h3 : dgB s = false := by
    unfold dgB
    rw [Bool.eq_false_iff]
    intro hA
    have := List.all_eq_true.1 hA s[k] (by show s.data[k] ∈ _; simp)
    unfold dgC at this
    rw [Bool.and_eq_true, decide_eq_true_eq, decide_eq_true_eq] at this
    omega
  unfold dgO; rw [h3]; rfl
theorem dgO_yes {s : ByteArray} (h : (s.data.toList.take s.size).all dgC = true) : dgO s = rdL s := by
  have h3 : dgB s = true := by
    unfold dgB
    rw [List.take_of_length_le (by simp)] at h
    exact h
  unfold dgO; rw [h3]; rfl

set_option maxRecDepth 100000 in
set_option maxHeartbeats 2000000 in
theorem i_digitsOf {s : ByteArray} {w : World} (hs : s.size ≤ 1048576) :
    Calls Tryz.prog 61 #[.string s] w (NewI w (dgO s)) := by
  have hst := OwnL.nil w w.heap.size
  go_enter Tryz.func61, Tryz.ntmps61
  go_wp2
  go_loopw [3, 7] (fun v i wr => ∃ (k : Nat) (l : List Int), k ≤ s.size ∧ i = .int .i64 k ∧ l.length ≤ k ∧ OwnL wr w.heap.size v l ∧ Hid (l = (rdL s).take k) ∧ Hid ((s.data.toList.take k).all dgC = true) ∧ Below w.heap.size w wr) (fun _ i _ => s.size - (intOf i).toNat)
  case atStart => exact ⟨0, [], Nat.zero_le _, rfl, Nat.le_refl _, hst, by simp [Hid], by simp [Hid], Below.refl _ _⟩
  case round =>
    obtain ⟨k, l, hk, rfl, hlk, hown, hl, hA, hBl⟩ := hrel
    have hBs := hBl.size
    clear hst
    by_cases hlt : k < s.size
    · have hsn := Lib.hid (rdL_snoc s hlt)
      have step : ∀ x, rdB s[k] = x → Hid (l ++ [x] = (rdL s).take (k + 1)) := fun x hx => by show _ = _; rw [hsn.out, hx, ← hl.out]
      have HS := Lib.hid step; clear step
      have hb := UInt8.toNat_lt s[k]
      by_cases h48 : (s[k].toNat : Int) < 48
      · have HN := Lib.hid (dgO_no hlt (.inl h48))
        go_wp2
        go_ret
        rw [HN.out]
        exact ⟨none, 0, rfl, ⟨OI.nil _ _ _ _, by simp⟩, hBl⟩
      by_cases h57 : 57 < (s[k].toNat : Int)
      · have HN := Lib.hid (dgO_no hlt (.inr h57))
        go_wp2
        go_ret
        rw [HN.out]
        exact ⟨none, 0, rfl, ⟨OI.nil _ _ _ _, by simp⟩, hBl⟩
      · have hdot : s[k] ≠ 46 := by intro e; rw [e] at h48; exact h48 (by decide)
        have HX := HS.out _ (rdB_digit hdot (by omega) (by omega))
        have HA2 : Hid ((s.data.toList.take (k + 1)).all dgC = true) := by
          show _ = _
          rw [(at_byte hlt).2, List.all_append, hA.out]
          unfold dgC
          simp; omega
        clear hdot
        go_wp2_with (first
          | (at_builtin; refine wpList_app1 rfl _ _ rfl w.heap.size _ _ rfl hown _ rfl (by omega) (by omega) ?_; intro v' w1 hown1 hb1)
          | go_in)
        have hBl1 := hBl.trans hb1
        clear hown hb1 hBl
        go_wp2
        go_roundw
        case rel => exact ⟨k + 1, _, by omega, by go_num, by simp; omega, hown1, HX, HA2, hBl1⟩
        case measure => simp [intOf]; omega
    · have hks : k = s.size := by omega
      subst hks
      have HY := Lib.hid (dgO_yes hA.out)
      go_wp2
      go_ret
      have h := hl.out
      rw [List.take_of_length_le (by rw [rdL_len]; omega)] at h
      subst h
      obtain ⟨a, c, rfl, hoi⟩ := hown.slice
      rw [HY.out]
      exact ⟨a, c, rfl, hoi, hBl⟩

set_option maxRecDepth 100000 in
set_option maxHeartbeats 1000000 in
theorem i_answerOf0 {s : ByteArray} {w : World} (h : dkC s true false false) : Calls Tryz.prog 48 #[.string s] w fun e w' => e = .returned (.func (.func 58) #[] #[]) ∧ w' = w := by
  obtain ⟨e0, e1, e2⟩ := h
  go_enter Tryz.func48, Tryz.ntmps48
  go_wp2
  go_ret
  exact ⟨rfl, rfl⟩
set_option maxRecDepth 100000 in
set_option maxHeartbeats 1000000 in
theorem i_answerOf1 {s : ByteArray} {w : World} (h : dkC s false true false) : Calls Tryz.prog 48 #[.string s] w fun e w' => e = .returned (.func (.func 59) #[] #[]) ∧ w' = w := by
  obtain ⟨e0, e1, e2⟩ := h
  go_enter Tryz.func48, Tryz.ntmps48
  go_wp2
  go_ret
  exact ⟨rfl, rfl⟩
set_option maxRecDepth 100000 in
set_option maxHeartbeats 1000000 in
theorem i_answerOf2 {s : ByteArray} {w : World} (h : dkC s false false true) : Calls Tryz.prog 48 #[.string s] w fun e w' => e = .returned (.func (.func 60) #[] #[]) ∧ w' = w := by
  obtain ⟨e0, e1, e2⟩ := h
  go_enter Tryz.func48, Tryz.ntmps48
  go_wp2
  go_ret
  exact ⟨rfl, rfl⟩
set_option maxRecDepth 100000 in
set_option maxHeartbeats 1000000 in
theorem i_answerOf3 {s : ByteArray} {w : World} (h : dkC s false false false) : Calls Tryz.prog 48 #[.string s] w fun e w' => e = .returned .nilFunc ∧ w' = w := by
  obtain ⟨e0, e1, e2⟩ := h
  go_enter Tryz.func48, Tryz.ntmps48
  go_wp2
  go_ret
  exact ⟨rfl, rfl⟩

/- The desk of the program: the three answers to a question. -/
open Go.RowKit

theorem box3 (w : World) (x y z : Value) (T : TypeId) : (w.alloc (.cells #[x, y, z] T)).cell? ⟨w.heap.size, 0, none⟩ = some x ∧ (w.alloc (.cells #[x, y, z] T)).cell? ⟨w.heap.size, 1, none⟩ = some y ∧ (w.alloc (.cells #[x, y, z] T)).cell? ⟨w.heap.size, 2, none⟩ = some z := by
  have h := heap_alloc_new w (.cells #[x, y, z] T)
  refine ⟨?_, ?_, ?_⟩
  · rw [cell_of_row _ _ 0 _ _ _ h]; rfl
  · rw [cell_of_row _ _ 1 _ _ _ h]; rfl
  · rw [cell_of_row _ _ 2 _ _ _ h]; rfl
theorem su_yesK {m : List Int} {L : List (List Int)} (hm : okM m = true) (hs : okS m L = true) : suS m L = stT L := by
  unfold suS; rw [hm, hs]; rfl

set_option maxRecDepth 100000 in
set_option maxHeartbeats 4000000 in
theorem i_covered {m : List Int} {L : List (List Int)} {a a' : Option Addr} {c c' lo hi lo' hi' : Nat} {w : World} {t : Int} {a0 a1 : Addr} (hm : RI w lo hi a m) (hs : RII w lo' hi' a' L) (hlm : m.length ≤ 9223372036854775807) (hls : L.length ≤ 9223372036854775807) (hg : ∀ r ∈ L, r.length ≤ 9223372036854775807) (hB : hi ≤ w.heap.size) (hB' : hi' ≤ w.heap.size)
    (hokm : okM m = true) (hoks : okS m L = true) (ht0 : 0 ≤ t) (ht1 : t ≤ m.length) (hD : DeskW w a0 a1) :
    Calls Tryz.prog 58 #[.agg #[.slice a m.length c, .int .i64 t, .slice a' L.length c']] w (NewV w (.string (dkV 0 m L t))) := by
  obtain ⟨⟨ca, cb, hca, hcb, hca4, hcb4⟩, _, _⟩ := dk_facts hokm hoks ht0 ht1
  have hV : dkV 0 m L t = nmS ca ++ ⟨#[47]⟩ ++ nmS cb := by unfold dkV; rw [if_pos rfl, hca, hcb]
  have HV := Lib.hid hV
  have HCA := Lib.hid hca; have HCB := Lib.hid hcb
  have HG := Lib.hid hg
  have z1 := @nm_size ca
  have z2 := @nm_size cb
  have hl5 := okM_len hokm
  have hbA := (Below.refl w.heap.size w).alloc (Nat.le_refl _) (.cells #[.slice a m.length c, .int .i64 t, .slice a' L.length c'] 83)
  obtain ⟨k0, k1, k2⟩ := box3 w (.slice a m.length c) (.int .i64 t) (.slice a' L.length c') 83
  have hm1 := hm.below hbA hB
  have hs1 := hs.below hbA hB'
  have hD1 := hD.below hbA (Nat.le_refl _)
  clear hca hcb hV hokm hoks hg hm hs hD
  go_enter Tryz.func58, Tryz.ntmps58
  go_wp2_with fail
  refine (i_CoverageOf hm1 (by omega) hs1 (by omega) HG.out (by omega) (by omega) (by simp; omega) (by simp; omega)).mono ?_
  rintro e w4 ⟨rfl, b4⟩
  have hD4 := hD1.below b4 (Nat.le_refl _)
  have bb4 := hbA.trans (b4.mono (by simp))
  have y4 := bb4.size
  rw [HCA.out, HCB.out]
  clear hm1 hs1 hD1 b4 hbA k0 k1 k2
  go_wp2_with fail
  refine (x_Itoa ca (by omega) hD4.tab).mono ?_
  rintro e w5 ⟨rfl, b5⟩
  have hD5 := hD4.below b5 (Nat.le_refl _)
  have bb5 := bb4.trans (b5.mono y4)
  have y5 := bb5.size
  clear hD4 b5 bb4
  go_wp2_with fail
  refine (x_Itoa cb (by omega) hD5.tab).mono ?_
  rintro e w6 ⟨rfl, b6⟩
  have bb6 := bb5.trans (b6.mono y5)
  clear hD5 b6 bb5
  go_wp2
  go_ret
  rw [HV.out]
  exact ⟨rfl, bb6⟩

set_option maxRecDepth 100000 in
set_option maxHeartbeats 4000000 in
theorem i_grown {m : List Int} {L : List (List Int)} {a a' : Option Addr} {c c' lo hi lo' hi' : Nat} {w : World} {t : Int} (hm : RI w lo hi a m) (hs : RII w lo' hi' a' L) (hlm : m.length ≤ 9223372036854775807) (hls : L.length ≤ 9223372036854775807) (hg : ∀ r ∈ L, r.length ≤ 9223372036854775807) (hB : hi ≤ w.heap.size) (hB' : hi' ≤ w.heap.size)
    (hokm : okM m = true) (hoks : okS m L = true) (ht0 : 0 ≤ t) (ht1 : t ≤ m.length) :
    Calls Tryz.prog 59 #[.agg #[.slice a m.length c, .int .i64 t, .slice a' L.length c']] w (NewV w (.string (dkV 1 m L t))) := by
  have hgo := (dk_facts hokm hoks ht0 ht1).2.2
  have hV1 : gsB m L t = false → dkV 1 m L t = noneS := fun h => by unfold dkV; rw [if_neg (by decide), if_pos rfl, h]; rfl
  have hV2 : gsB m L t = true → dkV 1 m L t = suS m (gsL m L t) ∧ (gsL m L t).length ≤ 20 ∧ ∀ r ∈ gsL m L t, r.length ≤ 9223372036854775807 := fun h => by
    have h2 := su_okS hokm (hgo h)
    refine ⟨?_, h2.1, fun r hr => by have := (h2.2 r hr).1; omega⟩
    unfold dkV; rw [if_neg (by decide), if_pos rfl, h, su_yesK hokm (hgo h)]; rfl
  have HG := Lib.hid hg
  have hl5 := okM_len hokm
  have hbA := (Below.refl w.heap.size w).alloc (Nat.le_refl _) (.cells #[.slice a m.length c, .int .i64 t, .slice a' L.length c'] 83)
  obtain ⟨k0, k1, k2⟩ := box3 w (.slice a m.length c) (.int .i64 t) (.slice a' L.length c') 83
  have hm1 := hm.below hbA hB
  have hs1 := hs.below hbA hB'
  cases hgb : gsB m L t
  · have HGB := Lib.hid hgb; have HV := Lib.hid (hV1 hgb)
    clear hgb hV1 hV2 hgo hokm hoks hg hm hs
    go_enter Tryz.func59, Tryz.ntmps59
    go_wp2_with fail
    refine (i_GrowSuite hm1 (by omega) hs1 (by omega) HG.out (by omega) (by omega) (by simp; omega) (by simp; omega)).mono ?_
    rintro e w4 ⟨ga, gc4, rfl, g4, b4⟩
    rw [HGB.out]
    have bb4 := hbA.trans (b4.mono (by simp))
    go_wp2
    go_ret
    rw [HV.out]
    exact ⟨rfl, bb4⟩
  · have HGB := Lib.hid hgb; have hv2 := hV2 hgb
    have HV := Lib.hid hv2.1
    have hgl := hv2.2.1
    have HGR := Lib.hid hv2.2.2
    clear hgb hV1 hV2 hgo hokm hoks hg hm hs hv2
    go_enter Tryz.func59, Tryz.ntmps59
    go_wp2_with fail
    refine (i_GrowSuite hm1 (by omega) hs1 (by omega) HG.out (by omega) (by omega) (by simp; omega) (by simp; omega)).mono ?_
    rintro e w4 ⟨ga, gc4, rfl, g4, b4⟩
    rw [HGB.out]
    have bb4 := hbA.trans (b4.mono (by simp))
    have y4 := b4.size
    have q0 := (b4.cell (p := ⟨w.heap.size, 0, none⟩) (by simp)).trans k0
    have hm4 := hm1.below b4 (by simp; omega)
    simp only [World.size_alloc] at y4
    clear hm1 hs1 b4 hbA k0 k1 k2
    go_wp2_with fail
    refine (i_SuiteText hm4 (by omega) g4.rii (by omega) HGR.out (by omega) (Nat.le_refl _)).mono ?_
    rintro e w5 ⟨rfl, b5⟩
    go_wp2
    go_ret
    rw [HV.out]
    exact ⟨rfl, bb4.trans (b5.mono (by omega))⟩

set_option maxRecDepth 100000 in
set_option maxHeartbeats 4000000 in
theorem i_trimmed {m : List Int} {L : List (List Int)} {a a' : Option Addr} {c c' lo hi lo' hi' : Nat} {w : World} {t : Int} (hm : RI w lo hi a m) (hs : RII w lo' hi' a' L) (hlm : m.length ≤ 9223372036854775807) (hls : L.length ≤ 9223372036854775807) (hcap : L.length ≤ c') (hg : ∀ r ∈ L, r.length ≤ 9223372036854775807) (hB : hi ≤ w.heap.size) (hB' : hi' ≤ w.heap.size)
    (hokm : okM m = true) (hoks : okS m L = true) (ht0 : 0 ≤ t) (ht1 : t ≤ m.length) :
    Calls Tryz.prog 60 #[.agg #[.slice a m.length c, .int .i64 t, .slice a' L.length c']] w (NewV w (.string (dkV 2 m L t))) := by
  have hgo := (dk_facts hokm hoks ht0 ht1).2.1
  have h2 := su_okS hokm hgo
  have HV : Hid (dkV 2 m L t = suS m (trL m L t)) := by show _ = _; unfold dkV; rw [if_neg (by decide), if_neg (by decide), su_yesK hokm hgo]
  have hgl := h2.1
  have HGR : Hid (∀ r ∈ trL m L t, r.length ≤ 9223372036854775807) := fun r hr => by have := (h2.2 r hr).1; omega
  have HG := Lib.hid hg
  have hl5 := okM_len hokm
  obtain ⟨W1, hW1⟩ : ∃ W1, w.alloc (.cells #[.slice a m.length c, .int .i64 t, .slice a' L.length c'] 83) = W1 := ⟨_, rfl⟩
  have hbA := (Below.refl w.heap.size w).alloc (Nat.le_refl _) (.cells #[.slice a m.length c, .int .i64 t, .slice a' L.length c'] 83)
  obtain ⟨k0, k1, k2⟩ := box3 w (.slice a m.length c) (.int .i64 t) (.slice a' L.length c') 83
  have hsz1 : W1.heap.size = w.heap.size + 1 := by rw [← hW1]; simp
  rw [hW1] at hbA k0 k1 k2
  have hm1 := hm.below hbA hB
  have hs1 := hs.below hbA hB'
  have HS : Hid (∀ w', Below W1.heap.size W1 w' → w'.cell? ⟨w.heap.size, 0, none⟩ = some (.slice a m.length c) ∧ w'.cell? ⟨w.heap.size, 1, none⟩ = some (.int .i64 t) ∧ w'.cell? ⟨w.heap.size, 2, none⟩ = some (.slice a' L.length c')) := fun w' hb =>
    ⟨(hb.cell (p := ⟨w.heap.size, 0, none⟩) (by show w.heap.size < _; omega)).trans k0, (hb.cell (p := ⟨w.heap.size, 1, none⟩) (by show w.heap.size < _; omega)).trans k1, (hb.cell (p := ⟨w.heap.size, 2, none⟩) (by show w.heap.size < _; omega)).trans k2⟩
  have HC1 : Hid (∀ w', Below W1.heap.size W1 w' → Calls Tryz.prog 72 #[.slice a m.length c, .slice a' L.length c', .int .i64 t] w' (NewII w' (trL m L t))) := fun w' hb =>
    i_TrimSuite (hm1.below hb (by omega)) (by omega) (hs1.below hb (by omega)) (by omega) HG.out (by omega) (by omega) hcap (by have := hb.size; omega) (by have := hb.size; omega)
  have HC2 : Hid (∀ (w2 w3 : World) a5 c5, Below W1.heap.size W1 w2 → OIIc w2 w3.heap.size w2.heap.size a5 c5 (trL m L t) → Calls Tryz.prog 71 #[.slice a m.length c, .slice a5 (trL m L t).length c5] w2 (NewV' w2 (.string (suS m (trL m L t))))) := fun w2 w3 a5 c5 hb ho =>
    i_SuiteText (hm1.below hb (by omega)) (by omega) ho.rii (by omega) HGR.out (by have := hb.size; omega) (Nat.le_refl _)
  have hq1 : Below W1.heap.size W1 W1 := Below.refl _ _
  have HB1 := Lib.hid hbA
  have HW := Lib.hid hW1
  clear hokm hoks hg hm hs hgo h2 hm1 hs1 k0 k1 k2 hW1 hbA
  go_enter Tryz.func60, Tryz.ntmps60
  go_wp2_with fail
  rw [HW.out]
  go_region_held3 (fun w' => w'.cell? ⟨w.heap.size, 0, none⟩ = some (.slice a m.length c) ∧ w'.cell? ⟨w.heap.size, 1, none⟩ = some (.int .i64 t) ∧ w'.cell? ⟨w.heap.size, 2, none⟩ = some (.slice a' L.length c')) (first | exact HS.out _ (by first | exact hq3 | exact hq2 | exact hq1.drew | exact hq1) | go_keep) ((first
    | (go_at_call 72; refine (HC1.out _ (by first | exact hq1.drew | exact hq1)).mono ?_; rintro e w2 ⟨a5, c5, rfl, h5, hb5⟩; have hq2 : Below W1.heap.size W1 w2 := (by first | exact hq1.drew.trans hb5 | exact hq1.trans hb5))
    | (go_at_call 71; refine (HC2.out w2 _ _ _ hq2 h5).mono ?_; rintro e w3 ⟨rfl, b3⟩; have hq3 : Below W1.heap.size W1 w3 := hq2.trans (b3.mono hq2.size))))
  all_goals
    go_wp2
    go_ret
    rw [HV.out]
    exact ⟨rfl, HB1.out.trans (hq3.mono (by omega))⟩

/- Walks: errors.Is, where the target is a value that errors.New has made. -/
open Go.RowKit Go.Extern.Stop Go.Stop Go.Extern

theorem eTypeOf (v : Value) (w : World) : (Extern.ReflectliteType.typeOf #[.iface 165 v]).run Tryz.prog w = .ok (.iface 98 (.agg #[.pointer (some ⟨8, 165, none⟩)])) w := by kernel_rfl

theorem eComparable (w : World) : ((Extern.ReflectliteType.method fun t => do Go.Extern.Rtype.noPackHeld "Comparable" t; (fun a => Value.bool a.comparable) <$> typeInfo t) #[.agg #[.pointer (some ⟨8, 165, none⟩)]]).run Tryz.prog w = .ok (.bool true) w := by kernel_rfl

theorem eMethod (v : Value) (w : World) : (Go.method 302 98 v "Comparable").run Tryz.prog w = .ok (145, v) w := by kernel_rfl

theorem eComp : (Tryz.prog.info? 165).map (·.comparable) = some true := by kernel_rfl

theorem eSize : (Tryz.prog.info? 189).map (·.size) = some 1 := by kernel_rfl

theorem eNoIs (v : Value) (xT : TypeId) (w : World) : (Instr.typeAssert (.iface 165 v) xT 100 true).run Tryz.prog w = .ok (.tuple #[.nilIface, .bool false]) w := run_typeAssert_lacksB Tryz.underlying100 (by kernel_rfl) (by kernel_rfl) v xT w

theorem eNoUnwrap (v : Value) (xT : TypeId) (w : World) : (Instr.typeAssert (.iface 165 v) xT 103 true).run Tryz.prog w = .ok (.tuple #[.nilIface, .bool false]) w := run_typeAssert_lacksB Tryz.underlying103 (by kernel_rfl) (by kernel_rfl) v xT w

theorem eNoUnwraps (v : Value) (xT : TypeId) (w : World) : (Instr.typeAssert (.iface 165 v) xT 105 true).run Tryz.prog w = .ok (.tuple #[.nilIface, .bool false]) w := run_typeAssert_lacksB Tryz.underlying105 (by kernel_rfl) (by kernel_rfl) v xT w

set_option maxRecDepth 100000 in
set_option maxHeartbeats 4000000 in
theorem is_sameK (a : Addr) (w : World) :
    Calls Tryz.prog 35 #[.iface 165 (.pointer (some a)), .iface 165 (.pointer (some a))] w fun e w' => e = .returned (.bool true) ∧ w' = w := by
  obtain ⟨i, hi, hcmp⟩ := Option.map_eq_some_iff.1 eComp
  obtain ⟨j, hj, hjs⟩ := Option.map_eq_some_iff.1 eSize
  have h8 := @run_callFunc_extern Tryz.prog 50 _ Extern.ReflectliteType.typeOf Tryz.func50 (by kernel_rfl) (by kernel_rfl) (by kernel_rfl) (by kernel_rfl)
  have h32 := @run_callFunc_extern Tryz.prog 145 _ (Extern.ReflectliteType.method fun t => do Go.Extern.Rtype.noPackHeld "Comparable" t; pure (.bool (← typeInfo t).comparable)) Tryz.func145 (by kernel_rfl) (by kernel_rfl) (by kernel_rfl) (by kernel_rfl)
  have tT := eTypeOf
  have cT := eComparable
  have mR := eMethod
  have heq := run_eql_iface_ptr_same (P := Tryz.prog) w a Tryz.underlying37 Tryz.underlying165 hi hcmp hj
  go_enter Tryz.func35, Tryz.ntmps35
  go_wp2
  refine wp_loop_rounds 1 ?_
  rw [rounds_succ]
  go_wp2
  go_ret
  exact ⟨rfl, rfl⟩

set_option maxRecDepth 100000 in
set_option maxHeartbeats 4000000 in
theorem is_nilK (b : Addr) (w : World) :
    Calls Tryz.prog 35 #[.nilIface, .iface 165 (.pointer (some b))] w fun e w' => e = .returned (.bool false) ∧ w' = w := by
  have hn := run_eql_iface_nil_left (P := Tryz.prog) w 165 (.pointer (some b)) Tryz.underlying37
  go_enter Tryz.func35, Tryz.ntmps35
  go_wp2
  go_ret
  exact ⟨rfl, rfl⟩

set_option maxRecDepth 100000 in
set_option maxHeartbeats 4000000 in
theorem is_otherK (a b : Addr) (ca cb : Array Value) (ta tb : TypeId) (w : World) (hne : a ≠ b) (ha : w.heap[a.block]? = some (.cells ca ta (0, 0))) (hb : w.heap[b.block]? = some (.cells cb tb (0, 0))) :
    Calls Tryz.prog 35 #[.iface 165 (.pointer (some a)), .iface 165 (.pointer (some b))] w fun e w' => e = .returned (.bool false) ∧ w' = w := by
  obtain ⟨i, hi, hcmp⟩ := Option.map_eq_some_iff.1 eComp
  obtain ⟨j, hj, hjs⟩ := Option.map_eq_some_iff.1 eSize
  have h8 := @run_callFunc_extern Tryz.prog 50 _ Extern.ReflectliteType.typeOf Tryz.func50 (by kernel_rfl) (by kernel_rfl) (by kernel_rfl) (by kernel_rfl)
  have h32 := @run_callFunc_extern Tryz.prog 145 _ (Extern.ReflectliteType.method fun t => do Go.Extern.Rtype.noPackHeld "Comparable" t; pure (.bool (← typeInfo t).comparable)) Tryz.func145 (by kernel_rfl) (by kernel_rfl) (by kernel_rfl) (by kernel_rfl)
  have tT := eTypeOf
  have cT := eComparable
  have mR := eMethod
  have nE := eNoIs
  have uE := eNoUnwrap
  have vE := eNoUnwraps
  have heq := run_eql_iface_ptr_other (P := Tryz.prog) w Tryz.underlying37 Tryz.underlying165 hi hcmp hj (by rw [hjs]; decide) hne ha hb
  go_enter Tryz.func35, Tryz.ntmps35
  go_wp2
  refine wp_loop_rounds 1 ?_
  rw [rounds_succ]
  go_wp2
  go_ret
  exact ⟨rfl, rfl⟩

/- The desk of the program: the question of three texts. -/
open Go.RowKit

theorem cells3q {w : World} {b t : Nat} {x y z : Value} (h : w.heap[b]? = some (.cells #[x, y, z] t (0, 0))) : w.cell? ⟨b, 0, none⟩ = some x ∧ w.cell? ⟨b, 1, none⟩ = some y ∧ w.cell? ⟨b, 2, none⟩ = some z := by
  refine ⟨?_, ?_, ?_⟩
  · rw [cell_of_row _ _ 0 _ _ _ h]; rfl
  · rw [cell_of_row _ _ 1 _ _ _ h]; rfl
  · rw [cell_of_row _ _ 2 _ _ _ h]; rfl
theorem frozenq {w : World} {b t : Nat} {c : Array Value} (h : w.heap[b]? = some (.cells c t (0, 0))) (k : Nat) : w.frozen? ⟨b, k, none⟩ = false :=
  World.rowIs.frozen (t := t) (n := c.size) (f := fun i => c.getD i undef) ⟨c, h, rfl, fun i hi => by simp [Array.getD, hi]⟩ k
theorem set3w {w : World} {b t : Nat} {x y z : Value} (h : w.heap[b]? = some (.cells #[x, y, z] t (0, 0))) (v0 v1 v2 : Value) :
    ∃ W, W = (((w.setCell ⟨b, 0, none⟩ v0).setCell ⟨b, 1, none⟩ v1).setCell ⟨b, 2, none⟩ v2) ∧ W.heap[b]? = some (.cells #[v0, v1, v2] t (0, 0)) ∧
      (∀ k, k ≠ b → W.heap[k]? = w.heap[k]?) ∧ W.heap.size = w.heap.size ∧ (W.os = w.os ∧ W.tape = w.tape ∧ W.output = w.output) := by
  refine ⟨_, rfl, ?_, fun k hk => ?_, by simp only [World.setCell, Array.size_modify], by simp only [World.setCell], by simp only [World.setCell], by simp only [World.setCell]⟩
  · simp only [World.setCell, Array.getElem?_modify, if_true]
    rw [h]; rfl
  · simp only [World.setCell, Array.getElem?_modify, if_neg (Ne.symm hk)]
theorem infoQ : (Tryz.prog.info? 83).map (·.size) = some 3 := by kernel_rfl
theorem res_q (tmps : Array Value) (w : World) (g t : Nat) (x y z : Value) (hp : tmps.getD 6 undef = .pointer (some ⟨g, 0, none⟩)) (hg : w.heap[g]? = some (.cells #[x, y, z] t (0, 0))) :
    (results Tryz.f49 tmps).run Tryz.prog w = .ok (.tuple #[.agg #[x, y, z], tmps.getD 7 undef]) w := by
  rw [results_cell_tmp Tryz.results49, hp]
  simp [asAddr, Result.andThen, run_loadVar_row w g t 83 #[x, y, z] (0, 0) _ hg Tryz.underlying83 rfl infoQ]

/-- whether three texts are a question -/
def qoB (x1 x2 x3 : ByteArray) : Bool := psB (rdL x1) x3 && dkD x2 (rdL x1).length
theorem dgC_of {c : UInt8} (h1 : 1 ≤ rdB c) (h2 : rdB c ≤ 3) : dgC c = true := by
  unfold rdB at h1 h2
  unfold dgC
  split at h1
  · omega
  · rename_i hd
    rw [if_neg hd] at h2
    split at h1
    · rename_i hn; rw [if_pos hn] at h2; omega
    · rename_i hn
      rw [not_or, UInt8.lt_iff_toNat_lt, UInt8.lt_iff_toNat_lt] at hn
      rw [Bool.and_eq_true, decide_eq_true_eq, decide_eq_true_eq]
      have a1 := hn.1; have a2 := hn.2
      simp at a1 a2
      omega
theorem okM_lvl {m : List Int} (h : okM m = true) : ∀ x ∈ m, 1 ≤ x ∧ x ≤ 3 := fun x hx => by
  obtain ⟨k, hk⟩ := List.mem_iff_getElem?.1 hx
  exact okM_at h hk
theorem ok_dg {x : ByteArray} (h : okM (rdL x) = true) : dgO x = rdL x := by
  have h3 : dgB x = true := by
    unfold dgB
    rw [List.all_eq_true]
    intro c hc
    have := okM_lvl h (rdB c) (by unfold rdL; exact List.mem_map_of_mem hc)
    exact dgC_of this.1 this.2
  unfold dgO; rw [h3]; rfl
theorem dg_one {x : ByteArray} {t : Int} (h : dgO x = [t]) : x.size = 1 ∧ dgC (x.data.toList.headD 0) = true ∧ t = dkN x := by
  unfold dgO at h
  split at h
  · rename_i hb
    have h1 := congrArg List.length h
    rw [rdL_len] at h1
    obtain ⟨⟨l⟩⟩ := x
    match l, h1, hb, h with
    | [c], _, hb, h =>
      have hc : dgC c = true := by simpa [dgB] using hb
      refine ⟨rfl, hc, ?_⟩
      have e : [rdB c] = [t] := h
      injection e with e
      unfold dgC at hc
      rw [Bool.and_eq_true, decide_eq_true_eq, decide_eq_true_eq] at hc
      have hd : c ≠ 46 := by intro e2; rw [e2] at hc; exact absurd hc.1 (by decide)
      rw [rdB_digit hd (by omega) (by omega)] at e
      exact e.symm
  · cases h
theorem dkD_iff {q : ByteArray} {n : Nat} : dkD q n = true ↔ q.size = 1 ∧ dgC (q.data.toList.headD 0) = true ∧ dkN q ≤ n := by
  unfold dkD dgC dkN
  rw [Bool.and_eq_true, Bool.and_eq_true, Bool.and_eq_true, Bool.and_eq_true, decide_eq_true_eq, decide_eq_true_eq, decide_eq_true_eq, decide_eq_true_eq]
  constructor
  · rintro ⟨⟨⟨a, b⟩, c⟩, d⟩; exact ⟨a, ⟨b, c⟩, by omega⟩
  · rintro ⟨a, ⟨b, c⟩, d⟩; exact ⟨⟨⟨a, b⟩, c⟩, by omega⟩
theorem one_dg {x : ByteArray} (h : x.size = 1) (hc : dgC (x.data.toList.headD 0) = true) : dgO x = [dkN x] := by
  obtain ⟨⟨l⟩⟩ := x
  match l, h, hc with
  | [c], _, hc =>
    have hc : dgC c = true := hc
    have hb : dgB ⟨⟨[c]⟩⟩ = true := by simp [dgB, hc]
    unfold dgO
    rw [hb]
    unfold dgC at hc
    rw [Bool.and_eq_true, decide_eq_true_eq, decide_eq_true_eq] at hc
    have hd : c ≠ 46 := by intro e2; rw [e2] at hc; exact absurd hc.1 (by decide)
    show [rdB c] = _
    rw [rdB_digit hd (by omega) (by omega)]
    rfl
theorem dgC_ge {c : UInt8} (h : dgC c = true) : 0 ≤ (c.toNat : Int) - 48 := by
  unfold dgC at h
  rw [Bool.and_eq_true, decide_eq_true_eq, decide_eq_true_eq] at h
  omega
theorem qo_yes {x1 x2 x3 : ByteArray} (h : qoB x1 x2 x3 = true) : dgO x1 = rdL x1 ∧ dgO x2 = [dkN x2] ∧ inR (dkN x2) 0 (rdL x1).length = true ∧ psB (rdL x1) x3 = true := by
  unfold qoB at h
  rw [Bool.and_eq_true] at h
  have hp := h.1
  unfold psB at hp
  rw [Bool.and_eq_true] at hp
  have hd := dkD_iff.1 h.2
  exact ⟨ok_dg hp.1, one_dg hd.1 hd.2.1, inR_true.2 ⟨dgC_ge hd.2.1, hd.2.2⟩, h.1⟩
theorem qo_no {x1 x2 x3 : ByteArray} (h : qoB x1 x2 x3 = false) : (dgO x2).length ≠ 1 ∨ ∃ t, dgO x2 = [t] ∧ (inR t 0 (dgO x1).length = false ∨ (inR t 0 (dgO x1).length = true ∧ psB (dgO x1) x3 = false)) := by
  by_cases h1 : (dgO x2).length = 1
  case neg => exact .inl h1
  right
  obtain ⟨t, ht⟩ : ∃ t, dgO x2 = [t] := by
    match h9 : dgO x2, h1 with
    | [t], _ => exact ⟨t, rfl⟩
  refine ⟨t, ht, ?_⟩
  cases hr : inR t 0 (dgO x1).length
  · exact .inl rfl
  · refine .inr ⟨rfl, ?_⟩
    cases hp : psB (dgO x1) x3
    · rfl
    exfalso
    have hp2 := hp
    unfold psB at hp2
    rw [Bool.and_eq_true] at hp2
    have e : dgO x1 = rdL x1 := by
      unfold dgO
      split
      · rfl
      · rename_i hb
        have : dgO x1 = [] := by unfold dgO; rw [if_neg hb]
        rw [this] at hp2
        exact absurd hp2.1 (by decide)
    have ho := dg_one ht
    rw [e] at hp hr
    have : qoB x1 x2 x3 = true := by
      unfold qoB
      rw [hp, dkD_iff.2 ⟨ho.1, ho.2.1, by rw [← ho.2.2]; exact (inR_true.1 hr).2⟩]
      rfl
    rw [this] at h
    cases h


set_option maxRecDepth 100000 in
set_option maxHeartbeats 4000000 in
theorem i_questionA {x1 x2 x3 : ByteArray} {w : World} {a0 a1 : Addr} (h1 : x1.size ≤ 1048576) (h2 : x2.size ≤ 1048576) (_h3 : x3.size ≤ 1048576) (hD : DeskW w a0 a1) {X1 X2 : List Int} (HX1 : Hid (dgO x1 = X1)) (HX2 : Hid (dgO x2 = X2)) (_hl1 : X1.length ≤ 1048576) (_hl2 : X2.length ≤ 1048576) (hno : X2.length ≠ 1) :
    Calls Tryz.prog 49 #[.string x1, .string x2, .string x3] w
      (fun e w' => e = .returned (.tuple #[.agg #[.slice none 0 0, .int .i64 0, .slice none 0 0], .iface 165 (.pointer (some a0))]) ∧ Below w.heap.size w w') := by
  have hne : ((X2.length : Int) != 1) = true := by rw [bne_iff_ne]; omega
  have hbA := (Below.refl w.heap.size w).alloc (Nat.le_refl _) (.cells #[.slice none 0 0, .int .i64 0, .slice none 0 0] 83)
  have hA := heap_alloc_new w (.cells #[.slice none 0 0, .int .i64 0, .slice none 0 0] 83)
  have hlt0 := World.block_lt_of_cell? w _ hD.e0
  go_enter Tryz.func49, Tryz.ntmps49
  go_wp2_with fail
  refine (i_digitsOf (s := x1) h1).mono ?_
  rintro e w2 ⟨ma, mc, rfl, hm, b2⟩
  rw [HX1.out] at hm
  rw [HX1.out]
  have bb2 := hbA.trans (b2.mono (by simp))
  have hq2 := (b2.block w.heap.size (by simp)).trans hA
  have y2 := b2.size
  simp only [World.size_alloc] at y2 hm
  clear hA hbA b2
  go_wp2_with fail
  refine (i_digitsOf (s := x2) h2).mono ?_
  rintro e w3 ⟨ta, tc, rfl, ht, b3⟩
  rw [HX2.out] at ht
  rw [HX2.out]
  have bb3 := bb2.trans (b3.mono (by omega))
  have hq3 := (b3.block w.heap.size (by omega)).trans hq2
  have y3 := b3.size
  have hm3 := hm.ri.below b3 (Nat.le_refl _)
  clear hq2 b3 bb2 hm
  clear hm3 ht
  have hD4 := hD.below bb3 (Nat.le_refl _)
  obtain ⟨d0, d1, d2⟩ := cells3q hq3
  have f0 := frozenq hq3 0
  have f1 := frozenq hq3 1
  have f2 := frozenq hq3 2
  have e0 := hD4.e0
  obtain ⟨W5, hW5, hw5, hk5, hs5, ho5⟩ := set3w hq3 (.slice none 0 0) (.int .i64 0) (.slice none 0 0)
  have e0' : W5.cell? ⟨0, 0, none⟩ = some (.iface 165 (.pointer (some a0))) := (World.cell?_of_block (a := ⟨0, 0, none⟩) (hk5 _ (by show 0 ≠ w.heap.size; omega))).trans e0
  rw [hW5] at e0'
  have HK := Lib.hid hk5; have HO := Lib.hid ho5; have HW5 := Lib.hid hW5; have hlw := bb3.size
  clear hk5 ho5 hW5 hD4 hq3
  go_wp2_with fail
  go_region
  go_wp2
  rw [← HW5.out]
  exact bodyPost_ret (res_q _ _ w.heap.size _ _ _ _ rfl hw5) rfl ⟨rfl, bb3.trans ⟨HO.out.1, HO.out.2.1, HO.out.2.2, by show _ ≤ W5.heap.size; omega, fun k hk => HK.out k (by omega)⟩⟩

set_option maxRecDepth 100000 in
set_option maxHeartbeats 4000000 in
theorem i_questionB {x1 x2 x3 : ByteArray} {w : World} {a0 a1 : Addr} (h1 : x1.size ≤ 1048576) (h2 : x2.size ≤ 1048576) (_h3 : x3.size ≤ 1048576) (hD : DeskW w a0 a1) {X1 : List Int} {t0 : Int} (HX1 : Hid (dgO x1 = X1)) (HX2 : Hid (dgO x2 = [t0])) (hl1 : X1.length ≤ 1048576) (HR : Hid (inR t0 0 X1.length = false)) :
    Calls Tryz.prog 49 #[.string x1, .string x2, .string x3] w
      (fun e w' => e = .returned (.tuple #[.agg #[.slice none 0 0, .int .i64 0, .slice none 0 0], .iface 165 (.pointer (some a0))]) ∧ Below w.heap.size w w') := by
  have hbA := (Below.refl w.heap.size w).alloc (Nat.le_refl _) (.cells #[.slice none 0 0, .int .i64 0, .slice none 0 0] 83)
  have hA := heap_alloc_new w (.cells #[.slice none 0 0, .int .i64 0, .slice none 0 0] 83)
  have hlt0 := World.block_lt_of_cell? w _ hD.e0
  go_enter Tryz.func49, Tryz.ntmps49
  go_wp2_with fail
  refine (i_digitsOf (s := x1) h1).mono ?_
  rintro e w2 ⟨ma, mc, rfl, hm, b2⟩
  rw [HX1.out] at hm
  rw [HX1.out]
  have bb2 := hbA.trans (b2.mono (by simp))
  have hq2 := (b2.block w.heap.size (by simp)).trans hA
  have y2 := b2.size
  simp only [World.size_alloc] at y2 hm
  clear hA hbA b2
  go_wp2_with fail
  refine (i_digitsOf (s := x2) h2).mono ?_
  rintro e w3 ⟨ta, tc, rfl, ht, b3⟩
  rw [HX2.out] at ht
  rw [HX2.out]
  have bb3 := bb2.trans (b3.mono (by omega))
  have hq3 := (b3.block w.heap.size (by omega)).trans hq2
  have y3 := b3.size
  have hm3 := hm.ri.below b3 (Nat.le_refl _)
  clear hq2 b3 bb2 hm
  obtain ⟨bt, ot, xt, hta, htb1, htb2, htc, hx⟩ := ht.ri.at (k := 0) (by simp)
  obtain rfl : t0 = xt := by have := hx.out; simpa using this
  have hidx := fun wx => idxI hta (show 0 < 1 by omega) tc wx
  simp only [Nat.add_zero] at htc
  have hidx' : ∀ wx : World, (Instr.indexAt 45 (.slice ta 1 tc) (.int .i64 0)).run Tryz.prog wx = .ok (.pointer (some ⟨bt, ot, none⟩)) wx := hidx
  have hRO := Lib.hid (fun (wx : World) => i_isStrength (m := X1) (a := ma) (c := mc) (w := wx) (t := t0) (by omega))
  clear hidx hx hta ht
  go_wp2_with fail
  refine (hRO.out _).mono ?_
  rintro e w4 ⟨rfl, d4⟩
  have b4 := Dr.below d4 w3.heap.size
  have bb4 := bb3.trans (b4.mono (by omega))
  have hq4 := (b4.block w.heap.size (by omega)).trans hq3
  have hm4 := hm3.dr d4
  have y4 := b4.size
  have htc4 := (b4.cell (p := ⟨bt, ot, none⟩) (by show bt < _; omega)).trans htc
  clear b4 d4 hq3 hm3 bb3 htc
  rw [HR.out]
  clear hm4 htc4 hidx'
  have hD4 := hD.below bb4 (Nat.le_refl _)
  obtain ⟨d0, d1, d2⟩ := cells3q hq4
  have f0 := frozenq hq4 0
  have f1 := frozenq hq4 1
  have f2 := frozenq hq4 2
  have e0 := hD4.e0
  obtain ⟨W5, hW5, hw5, hk5, hs5, ho5⟩ := set3w hq4 (.slice none 0 0) (.int .i64 0) (.slice none 0 0)
  have e0' : W5.cell? ⟨0, 0, none⟩ = some (.iface 165 (.pointer (some a0))) := (World.cell?_of_block (a := ⟨0, 0, none⟩) (hk5 _ (by show 0 ≠ w.heap.size; omega))).trans e0
  rw [hW5] at e0'
  have HK := Lib.hid hk5; have HO := Lib.hid ho5; have HW5 := Lib.hid hW5; have hlw := bb4.size
  clear hk5 ho5 hW5 hD4 hq4
  go_wp2_with fail
  go_region
  go_wp2
  rw [← HW5.out]
  exact bodyPost_ret (res_q _ _ w.heap.size _ _ _ _ rfl hw5) rfl ⟨rfl, bb4.trans ⟨HO.out.1, HO.out.2.1, HO.out.2.2, by show _ ≤ W5.heap.size; omega, fun k hk => HK.out k (by omega)⟩⟩

set_option maxRecDepth 100000 in
set_option maxHeartbeats 4000000 in
theorem i_questionC {x1 x2 x3 : ByteArray} {w : World} {a0 a1 : Addr} (h1 : x1.size ≤ 1048576) (h2 : x2.size ≤ 1048576) (h3 : x3.size ≤ 1048576) (hD : DeskW w a0 a1) {X1 : List Int} {t0 : Int} (HX1 : Hid (dgO x1 = X1)) (HX2 : Hid (dgO x2 = [t0])) (hl1 : X1.length ≤ 1048576) (HR : Hid (inR t0 0 X1.length = true)) (HP : Hid (psB X1 x3 = false)) :
    Calls Tryz.prog 49 #[.string x1, .string x2, .string x3] w
      (fun e w' => e = .returned (.tuple #[.agg #[.slice none 0 0, .int .i64 0, .slice none 0 0], .iface 165 (.pointer (some a0))]) ∧ Below w.heap.size w w') := by
  have hbA := (Below.refl w.heap.size w).alloc (Nat.le_refl _) (.cells #[.slice none 0 0, .int .i64 0, .slice none 0 0] 83)
  have hA := heap_alloc_new w (.cells #[.slice none 0 0, .int .i64 0, .slice none 0 0] 83)
  have hlt0 := World.block_lt_of_cell? w _ hD.e0
  go_enter Tryz.func49, Tryz.ntmps49
  go_wp2_with fail
  refine (i_digitsOf (s := x1) h1).mono ?_
  rintro e w2 ⟨ma, mc, rfl, hm, b2⟩
  rw [HX1.out] at hm
  rw [HX1.out]
  have bb2 := hbA.trans (b2.mono (by simp))
  have hq2 := (b2.block w.heap.size (by simp)).trans hA
  have y2 := b2.size
  simp only [World.size_alloc] at y2 hm
  clear hA hbA b2
  go_wp2_with fail
  refine (i_digitsOf (s := x2) h2).mono ?_
  rintro e w3 ⟨ta, tc, rfl, ht, b3⟩
  rw [HX2.out] at ht
  rw [HX2.out]
  have bb3 := bb2.trans (b3.mono (by omega))
  have hq3 := (b3.block w.heap.size (by omega)).trans hq2
  have y3 := b3.size
  have hm3 := hm.ri.below b3 (Nat.le_refl _)
  clear hq2 b3 bb2 hm
  obtain ⟨bt, ot, xt, hta, htb1, htb2, htc, hx⟩ := ht.ri.at (k := 0) (by simp)
  obtain rfl : t0 = xt := by have := hx.out; simpa using this
  have hidx := fun wx => idxI hta (show 0 < 1 by omega) tc wx
  simp only [Nat.add_zero] at htc
  have hidx' : ∀ wx : World, (Instr.indexAt 45 (.slice ta 1 tc) (.int .i64 0)).run Tryz.prog wx = .ok (.pointer (some ⟨bt, ot, none⟩)) wx := hidx
  have hRO := Lib.hid (fun (wx : World) => i_isStrength (m := X1) (a := ma) (c := mc) (w := wx) (t := t0) (by omega))
  clear hidx hx hta ht
  go_wp2_with fail
  refine (hRO.out _).mono ?_
  rintro e w4 ⟨rfl, d4⟩
  have b4 := Dr.below d4 w3.heap.size
  have bb4 := bb3.trans (b4.mono (by omega))
  have hq4 := (b4.block w.heap.size (by omega)).trans hq3
  have hm4 := hm3.dr d4
  have y4 := b4.size
  have htc4 := (b4.cell (p := ⟨bt, ot, none⟩) (by show bt < _; omega)).trans htc
  clear b4 d4 hq3 hm3 bb3 htc
  rw [HR.out]
  clear htc4 hidx'
  go_wp2_with fail
  refine (i_ParseSuite hm4 (by omega) h3 (by omega)).mono ?_
  rintro e w6 ⟨ra, rc, rfl, hR6, b6⟩
  rw [HP.out]
  have bb6 := bb4.trans (b6.mono (by omega))
  have hq6 := (b6.block w.heap.size (by omega)).trans hq4
  have y6 := b6.size
  clear hR6 b6 bb4 hq4 hm4
  have hD4 := hD.below bb6 (Nat.le_refl _)
  obtain ⟨d0, d1, d2⟩ := cells3q hq6
  have f0 := frozenq hq6 0
  have f1 := frozenq hq6 1
  have f2 := frozenq hq6 2
  have e0 := hD4.e0
  obtain ⟨W5, hW5, hw5, hk5, hs5, ho5⟩ := set3w hq6 (.slice none 0 0) (.int .i64 0) (.slice none 0 0)
  have e0' : W5.cell? ⟨0, 0, none⟩ = some (.iface 165 (.pointer (some a0))) := (World.cell?_of_block (a := ⟨0, 0, none⟩) (hk5 _ (by show 0 ≠ w.heap.size; omega))).trans e0
  rw [hW5] at e0'
  have HK := Lib.hid hk5; have HO := Lib.hid ho5; have HW5 := Lib.hid hW5; have hlw := bb6.size
  clear hk5 ho5 hW5 hD4 hq6
  go_wp2_with fail
  go_region
  go_wp2
  rw [← HW5.out]
  exact bodyPost_ret (res_q _ _ w.heap.size _ _ _ _ rfl hw5) rfl ⟨rfl, bb6.trans ⟨HO.out.1, HO.out.2.1, HO.out.2.2, by show _ ≤ W5.heap.size; omega, fun k hk => HK.out k (by omega)⟩⟩

set_option maxRecDepth 100000 in
set_option maxHeartbeats 4000000 in
theorem i_questionY {x1 x2 x3 : ByteArray} {w : World} {a0 a1 : Addr} (h1 : x1.size ≤ 1048576) (h2 : x2.size ≤ 1048576) (h3 : x3.size ≤ 1048576) (hD : DeskW w a0 a1) {X1 : List Int} {t0 : Int} (HX1 : Hid (dgO x1 = X1)) (HX2 : Hid (dgO x2 = [t0])) (hl1 : X1.length ≤ 1048576) (HR : Hid (inR t0 0 X1.length = true)) (HP : Hid (psB X1 x3 = true)) :
    Calls Tryz.prog 49 #[.string x1, .string x2, .string x3] w
    (fun e w' => ∃ a c a' c', e = .returned (.tuple #[.agg #[.slice a X1.length c, .int .i64 t0, .slice a' (psR x3).length c'], .nilIface]) ∧ RI w' w.heap.size w'.heap.size a X1 ∧ RIIc w' w.heap.size w'.heap.size a' c' (psR x3) ∧ Below w.heap.size w w') := by
  have HPL := Lib.hid (ps_yes HP.out).1
  have hbA := (Below.refl w.heap.size w).alloc (Nat.le_refl _) (.cells #[.slice none 0 0, .int .i64 0, .slice none 0 0] 83)
  have hA := heap_alloc_new w (.cells #[.slice none 0 0, .int .i64 0, .slice none 0 0] 83)
  have hlt0 := World.block_lt_of_cell? w _ hD.e0
  go_enter Tryz.func49, Tryz.ntmps49
  go_wp2_with fail
  refine (i_digitsOf (s := x1) h1).mono ?_
  rintro e w2 ⟨ma, mc, rfl, hm, b2⟩
  rw [HX1.out] at hm
  rw [HX1.out]
  have bb2 := hbA.trans (b2.mono (by simp))
  have hq2 := (b2.block w.heap.size (by simp)).trans hA
  have y2 := b2.size
  simp only [World.size_alloc] at y2 hm
  clear hA hbA b2
  go_wp2_with fail
  refine (i_digitsOf (s := x2) h2).mono ?_
  rintro e w3 ⟨ta, tc, rfl, ht, b3⟩
  rw [HX2.out] at ht
  rw [HX2.out]
  have bb3 := bb2.trans (b3.mono (by omega))
  have hq3 := (b3.block w.heap.size (by omega)).trans hq2
  have y3 := b3.size
  have hm3 := hm.ri.below b3 (Nat.le_refl _)
  clear hq2 b3 bb2 hm
  obtain ⟨bt, ot, xt, hta, htb1, htb2, htc, hx⟩ := ht.ri.at (k := 0) (by simp)
  obtain rfl : t0 = xt := by have := hx.out; simpa using this
  have hidx := fun wx => idxI hta (show 0 < 1 by omega) tc wx
  simp only [Nat.add_zero] at htc
  have hidx' : ∀ wx : World, (Instr.indexAt 45 (.slice ta 1 tc) (.int .i64 0)).run Tryz.prog wx = .ok (.pointer (some ⟨bt, ot, none⟩)) wx := hidx
  have hRO := Lib.hid (fun (wx : World) => i_isStrength (m := X1) (a := ma) (c := mc) (w := wx) (t := t0) (by omega))
  clear hidx hx hta ht
  go_wp2_with fail
  refine (hRO.out _).mono ?_
  rintro e w4 ⟨rfl, d4⟩
  have b4 := Dr.below d4 w3.heap.size
  have bb4 := bb3.trans (b4.mono (by omega))
  have hq4 := (b4.block w.heap.size (by omega)).trans hq3
  have hm4 := hm3.dr d4
  have y4 := b4.size
  have htc4 := (b4.cell (p := ⟨bt, ot, none⟩) (by show bt < _; omega)).trans htc
  clear b4 d4 hq3 hm3 bb3 htc
  rw [HR.out]
  go_wp2_with fail
  refine (i_ParseSuite hm4 (by omega) h3 (by omega)).mono ?_
  rintro e w6 ⟨ra, rc, rfl, hR6, b6⟩
  rw [HPL.out] at hR6
  rw [HP.out, HPL.out]
  have bb6 := bb4.trans (b6.mono (by omega))
  have hq6 := (b6.block w.heap.size (by omega)).trans hq4
  have y6 := b6.size
  have htc6 := (b6.cell (p := ⟨bt, ot, none⟩) (by show bt < _; omega)).trans htc4
  have hm6 := hm4.below b6 (by omega)
  clear b6 bb4 hq4 hm4 htc4
  obtain ⟨d0, d1, d2⟩ := cells3q hq6
  have f0 := frozenq hq6 0
  have f1 := frozenq hq6 1
  have f2 := frozenq hq6 2
  obtain ⟨W5, hW5, hw5, hk5, hs5, ho5⟩ := set3w hq6 (.slice ma X1.length mc) (.int .i64 t0) (.slice ra (psR x3).length rc)
  have HK := Lib.hid hk5; have HO := Lib.hid ho5; have HW5 := Lib.hid hW5; have hlw := bb6.size
  clear hk5 ho5 hW5 hq6
  go_wp2
  rw [← HW5.out]
  refine bodyPost_ret (res_q _ _ w.heap.size _ _ _ _ rfl hw5) rfl ⟨ma, mc, ra, rc, rfl, ?_, ?_, bb6.trans ⟨HO.out.1, HO.out.2.1, HO.out.2.2, by show _ ≤ W5.heap.size; omega, fun k hk => HK.out k (by omega)⟩⟩
  · exact (hm6.same (w' := W5) fun k k1 _ => HK.out k (by omega)).wide (by omega) (by omega)
  · have h := hR6.oii.same (w' := W5) fun k k1 _ => HK.out k (by omega)
    exact ⟨h.rii.wide (by omega) (by omega), hR6.cap⟩

/- The desk of the program: a line tried. -/
open Go.RowKit

theorem eqlNN (w : World) : (binOp .eql 80 .nilFunc .nilFunc).run Tryz.prog w = .ok (.bool true) w := by kernel_rfl
theorem eqlFN (f : FuncId) (w : World) : (binOp .eql 80 (.func (.func f) #[] #[]) .nilFunc).run Tryz.prog w = .ok (.bool false) w := by kernel_rfl
theorem dBelowA {w w1 : World} (h : Below w.heap.size w w1) (o : Obj) : Below w.heap.size w (w1.alloc o) := h.alloc h.size o
theorem dBelowD {w w1 : World} (h : Below w.heap.size w w1) : Below w.heap.size w w1.drew := h.drew
theorem dBelowS {w0 w1 w2 : World} (h : Below w0.heap.size w0 w1) (k : Below w1.heap.size w1 w2) : Below w0.heap.size w0 w2 := h.trans (k.mono h.size)
theorem zqD {v0 v1 : World} {o : Obj} (h : Below (v0.alloc o).drew.heap.size (v0.alloc o).drew v1) : Hid (v1.heap[v0.heap.size]? = some o) :=
  (h.block v0.heap.size (by show _ < (v0.alloc o).heap.size; simp)).trans (heap_alloc_new v0 _)
/-- behind a drawn region: a box made last or ahead, filled -/
theorem leafDq {v0 v3 : World} (x y z : Value) (h : Below v0.heap.size v0 v3) : ∃ (w4 : World) (q : Nat), w4 = v3.alloc (.cells #[x, y, z] 83) ∧ q = v3.heap.size ∧ w4.heap[q]? = some (.cells #[x, y, z] 83 (0, 0)) ∧ Below v0.heap.size v0 w4 ∧ (∀ k, k ≠ q → w4.heap[k]? = v3.heap[k]?) ∧ v3.heap.size ≤ w4.heap.size :=
  ⟨_, _, rfl, rfl, heap_alloc_new v3 _, h.alloc h.size _, fun k hk => by
    rcases Nat.lt_or_ge k v3.heap.size with h1 | h1
    · exact ((Below.refl v3.heap.size v3).alloc (Nat.le_refl _) _).block k h1
    · rw [Array.getElem?_eq_none (by simp; omega), Array.getElem?_eq_none h1], by simp⟩
theorem ltAD (v : World) (o : Obj) : v.heap.size < (v.alloc o).drew.heap.size := by show _ < (v.alloc o).heap.size; simp
theorem leafSq {v0 v3 : World} {p : Nat} {x0 y0 z0 : Value} (x y z : Value) (h : Below v0.heap.size v0 v3) (hb : Hid (v3.heap[p]? = some (.cells #[x0, y0, z0] 83 (0, 0)))) (hp : v0.heap.size ≤ p) :
    ∃ (w4 : World) (q : Nat), w4 = (((v3.setCell ⟨p, 0, none⟩ x).setCell ⟨p, 1, none⟩ y).setCell ⟨p, 2, none⟩ z) ∧ q = p ∧ w4.heap[q]? = some (.cells #[x, y, z] 83 (0, 0)) ∧ Below v0.heap.size v0 w4 ∧ (∀ k, k ≠ q → w4.heap[k]? = v3.heap[k]?) ∧ v3.heap.size ≤ w4.heap.size := by
  obtain ⟨W, hW, h1, h2, h3, h4⟩ := set3w hb.out x y z
  exact ⟨W, p, hW, rfl, h1, h.trans ⟨h4.1, h4.2.1, h4.2.2, by omega, fun k hk => h2 k (by omega)⟩, h2, by omega⟩
theorem qset {w : World} {b o q : Nat} {v x y z : Value} (hne : b ≠ q) (h : w.cell? ⟨b, o, none⟩ = some v) : (((w.setCell ⟨q, 0, none⟩ x).setCell ⟨q, 1, none⟩ y).setCell ⟨q, 2, none⟩ z).cell? ⟨b, o, none⟩ = some v :=
  (World.cell?_of_block (a := ⟨b, o, none⟩) ((Below.heap_setCell _ _ _ _ hne).trans ((Below.heap_setCell _ _ _ _ hne).trans (Below.heap_setCell _ _ _ _ hne)))).trans h
/-- what a line's trial gives -/
def tryR (w : World) (s : ByteArray) (v : Value) (e : Ending) (w' : World) : Prop := e = .returned (.tuple #[.string s, v]) ∧ Below w.heap.size w w'
theorem split_cells {X : List ByteArray} {w : World} {k : Nat} {p : ByteArray} (hp : X[k]? = some p) : (w.alloc (.cells (X.map Value.string).toArray 9)).cell? ⟨w.heap.size, k, none⟩ = some (.string p) := by
  rw [cell_of_row _ _ k _ _ _ (heap_alloc_new _ _)]; simp [hp]

set_option maxRecDepth 100000 in
set_option maxHeartbeats 4000000 in
theorem i_tryNone {line x0 : ByteArray} {X : List ByteArray} {w : World} {a0 a1 : Addr} (hs : line.size ≤ 1048576) (HX : Hid (pcs 32 line = x0 :: X)) (hc : dkC x0 false false false) (hD : DeskW w a0 a1) :
    Calls Tryz.prog 34 #[.string line] w (tryR w ⟨#[]⟩ (.iface 165 (.pointer (some a1)))) := by
  have hsp := x_Split1 line 32 w (by omega)
  rw [HX.out] at hsp
  have HSP := Lib.hid hsp
  have HC := Lib.hid hc
  have hbA := (Below.refl w.heap.size w).alloc (Nat.le_refl _) (.cells ((x0 :: X).map Value.string).toArray 9)
  have hD1 := hD.below hbA (Nat.le_refl _)
  have k0 := split_cells (X := x0 :: X) (w := w) (k := 0) (p := x0) rfl
  have i0 := fun wx => idxSt (a := some ⟨w.heap.size, 0, none⟩) (len := (x0 :: X).length) (k := 0) rfl (by simp) (x0 :: X).length wx
  simp only [Nat.add_zero] at i0
  obtain ⟨n, hn⟩ : ∃ n, (x0 :: X).length = n := ⟨_, rfl⟩
  rw [hn] at i0
  have i0' : ∀ wx : World, (Instr.indexAt 22 (.slice (some ⟨w.heap.size, 0, none⟩) n n) (.int .i64 0)).run Tryz.prog wx = .ok (.pointer (some ⟨w.heap.size, 0, none⟩)) wx := i0
  have HN := Lib.hid hn
  have e1 := hD1.e1
  clear hsp hn i0 hD
  have nn := eqlNN
  go_enter Tryz.func34, Tryz.ntmps34
  go_wp2_with fail
  refine (HSP.out).mono ?_
  rintro e w1 ⟨rfl, hw1⟩
  rw [HN.out]
  rw [← hw1] at k0 e1 hbA
  have HW := Lib.hid hw1
  clear hw1 hD1
  go_wp2_with fail
  refine (i_answerOf3 HC.out).mono ?_
  rintro e w2 ⟨rfl, rfl⟩
  go_wp2_with fail
  go_region
  go_wp2
  go_ret2
  exact ⟨rfl, by first | exact hbA.drew | exact hbA⟩

set_option maxRecDepth 100000 in
set_option maxHeartbeats 4000000 in
theorem i_tryLen {line x0 : ByteArray} {X : List ByteArray} {w : World} {a0 a1 : Addr} {fq : FuncId} (hs : line.size ≤ 1048576) (HX : Hid (pcs 32 line = x0 :: X)) (h4 : (x0 :: X).length ≠ 4) (HA : Hid (∀ w, Calls Tryz.prog 48 #[.string x0] w fun e w' => e = .returned (.func (.func fq) #[] #[]) ∧ w' = w)) (hD : DeskW w a0 a1) :
    Calls Tryz.prog 34 #[.string line] w (tryR w ⟨#[]⟩ (.iface 165 (.pointer (some a1)))) := by
  have hsp := x_Split1 line 32 w (by omega)
  rw [HX.out] at hsp
  have HSP := Lib.hid hsp
  have hbA := (Below.refl w.heap.size w).alloc (Nat.le_refl _) (.cells ((x0 :: X).map Value.string).toArray 9)
  have hD1 := hD.below hbA (Nat.le_refl _)
  have k0 := split_cells (X := x0 :: X) (w := w) (k := 0) (p := x0) rfl
  have i0 := fun wx => idxSt (a := some ⟨w.heap.size, 0, none⟩) (len := (x0 :: X).length) (k := 0) rfl (by simp) (x0 :: X).length wx
  simp only [Nat.add_zero] at i0
  obtain ⟨n, hn⟩ : ∃ n, (x0 :: X).length = n := ⟨_, rfl⟩
  rw [hn] at i0 h4
  have i0' : ∀ wx : World, (Instr.indexAt 22 (.slice (some ⟨w.heap.size, 0, none⟩) n n) (.int .i64 0)).run Tryz.prog wx = .ok (.pointer (some ⟨w.heap.size, 0, none⟩)) wx := i0
  have HN := Lib.hid hn
  have hne : ((n : Int) != 4) = true := by rw [bne_iff_ne]; omega
  have e1 := hD1.e1
  have fn := eqlFN fq
  clear hsp hn i0 hD h4
  go_enter Tryz.func34, Tryz.ntmps34
  go_wp2_with fail
  refine (HSP.out).mono ?_
  rintro e w1 ⟨rfl, hw1⟩
  rw [HN.out]
  rw [← hw1] at k0 e1 hbA
  have HW := Lib.hid hw1
  clear hw1 hD1
  go_wp2_with fail
  refine (HA.out w1).mono ?_
  rintro e w2 ⟨rfl, rfl⟩
  go_wp2_with fail
  go_region
  go_wp2
  go_ret2
  exact ⟨rfl, by first | exact hbA.drew | exact hbA⟩

set_option maxRecDepth 100000 in
set_option maxHeartbeats 8000000 in
theorem i_tryWrong {line x0 x1 x2 x3 : ByteArray} {w : World} {a0 a1 : Addr} {fq : FuncId} (hs : line.size ≤ 1048576) (HX : Hid (pcs 32 line = [x0, x1, x2, x3])) (HA : Hid (∀ w, Calls Tryz.prog 48 #[.string x0] w fun e w' => e = .returned (.func (.func fq) #[] #[]) ∧ w' = w)) (hD : DeskW w a0 a1)
    (HQ : Hid (∀ w', DeskW w' a0 a1 → Calls Tryz.prog 49 #[.string x1, .string x2, .string x3] w' (fun e w'' => e = .returned (.tuple #[.agg #[.slice none 0 0, .int .i64 0, .slice none 0 0], .iface 165 (.pointer (some a0))]) ∧ Below w'.heap.size w' w''))) :
    Calls Tryz.prog 34 #[.string line] w (tryR w ⟨#[]⟩ (.iface 165 (.pointer (some a0)))) := by
  have hsp := x_Split1 line 32 w (by omega)
  rw [HX.out] at hsp
  have HSP := Lib.hid hsp
  have hbA := (Below.refl w.heap.size w).alloc (Nat.le_refl _) (.cells (([x0, x1, x2, x3]).map Value.string).toArray 9)
  have hD1 := hD.below hbA (Nat.le_refl _)
  have k0 := split_cells (X := [x0, x1, x2, x3]) (w := w) (k := 0) (p := x0) rfl
  have k1 := split_cells (X := [x0, x1, x2, x3]) (w := w) (k := 1) (p := x1) rfl
  have k2 := split_cells (X := [x0, x1, x2, x3]) (w := w) (k := 2) (p := x2) rfl
  have k3 := split_cells (X := [x0, x1, x2, x3]) (w := w) (k := 3) (p := x3) rfl
  have i0 : ∀ wx : World, (Instr.indexAt 22 (.slice (some ⟨w.heap.size, 0, none⟩) 4 4) (.int .i64 0)).run Tryz.prog wx = .ok (.pointer (some ⟨w.heap.size, 0, none⟩)) wx := fun wx => idxSt (a := some ⟨w.heap.size, 0, none⟩) (len := 4) (k := 0) rfl (by omega) 4 wx
  have i1 : ∀ wx : World, (Instr.indexAt 22 (.slice (some ⟨w.heap.size, 0, none⟩) 4 4) (.int .i64 1)).run Tryz.prog wx = .ok (.pointer (some ⟨w.heap.size, 1, none⟩)) wx := fun wx => by have h := idxSt (a := some ⟨w.heap.size, 0, none⟩) (len := 4) (k := 1) rfl (by omega) 4 wx; simpa using h
  have i2 : ∀ wx : World, (Instr.indexAt 22 (.slice (some ⟨w.heap.size, 0, none⟩) 4 4) (.int .i64 2)).run Tryz.prog wx = .ok (.pointer (some ⟨w.heap.size, 2, none⟩)) wx := fun wx => by have h := idxSt (a := some ⟨w.heap.size, 0, none⟩) (len := 4) (k := 2) rfl (by omega) 4 wx; simpa using h
  have i3 : ∀ wx : World, (Instr.indexAt 22 (.slice (some ⟨w.heap.size, 0, none⟩) 4 4) (.int .i64 3)).run Tryz.prog wx = .ok (.pointer (some ⟨w.heap.size, 3, none⟩)) wx := fun wx => by have h := idxSt (a := some ⟨w.heap.size, 0, none⟩) (len := 4) (k := 3) rfl (by omega) 4 wx; simpa using h
  have fn := eqlFN fq
  clear hsp hD
  go_enter Tryz.func34, Tryz.ntmps34
  go_wp2_with fail
  refine (HSP.out).mono ?_
  rintro e w1 ⟨rfl, hw1⟩
  rw [← hw1] at k0 k1 k2 k3 hbA hD1
  have hz1 : w1.heap.size = w.heap.size + 1 := by rw [hw1]; simp
  clear hw1
  go_wp2_with fail
  refine (HA.out w1).mono ?_
  rintro e w2 ⟨rfl, rfl⟩
  have HS : Hid (∀ w', Below w2.heap.size w2 w' → w'.cell? ⟨w.heap.size, 1, none⟩ = some (.string x1) ∧ w'.cell? ⟨w.heap.size, 2, none⟩ = some (.string x2) ∧ w'.cell? ⟨w.heap.size, 3, none⟩ = some (.string x3)) := fun w' hb =>
    ⟨(hb.cell (p := ⟨w.heap.size, 1, none⟩) (by show w.heap.size < _; omega)).trans k1, (hb.cell (p := ⟨w.heap.size, 2, none⟩) (by show w.heap.size < _; omega)).trans k2, (hb.cell (p := ⟨w.heap.size, 3, none⟩) (by show w.heap.size < _; omega)).trans k3⟩
  have HQ2 : Hid (∀ w', Below w2.heap.size w2 w' → Calls Tryz.prog 49 #[.string x1, .string x2, .string x3] w' (fun e w'' => e = .returned (.tuple #[.agg #[.slice none 0 0, .int .i64 0, .slice none 0 0], .iface 165 (.pointer (some a0))]) ∧ Below w'.heap.size w' w'')) := fun w' hb => HQ.out w' (hD1.below hb (Nat.le_refl _))
  have hq0 : Below w2.heap.size w2 w2 := Below.refl _ _
  have HZ := Lib.hid hz1
  clear k0 k1 k2 k3 hD1 hz1
  go_wp2_with fail
  go_region_held3 (fun w' => w'.cell? ⟨w.heap.size, 1, none⟩ = some (.string x1) ∧ w'.cell? ⟨w.heap.size, 2, none⟩ = some (.string x2) ∧ w'.cell? ⟨w.heap.size, 3, none⟩ = some (.string x3)) (first | (refine HS.out _ ?_; (repeat (first | with_reducible exact hq1 | with_reducible exact hq0 | with_reducible refine dBelowA ?_ _ | with_reducible refine dBelowD ?_)); done) | (have hh := HS.out _ hq1; exact ⟨qset (by have := HZ.out; omega) hh.1, qset (by have := HZ.out; omega) hh.2.1, qset (by have := HZ.out; omega) hh.2.2⟩) | go_keep) ((first
    | (go_at_call 49; refine (HQ2.out _ (by (repeat (first | with_reducible exact hq0 | with_reducible refine dBelowA ?_ _ | with_reducible refine dBelowD ?_)))).mono ?_; rintro e v1 ⟨rfl, hbP⟩; have hq1 : Below w2.heap.size w2 v1 := dBelowS (by (repeat (first | with_reducible exact hq0 | with_reducible refine dBelowA ?_ _ | with_reducible refine dBelowD ?_))) hbP; try (have hbx1 : Hid (v1.heap[w2.heap.size]? = some (.cells #[.slice none 0 0, .int .i64 0, .slice none 0 0] 83 (0, 0))) := zqD (v0 := w2) hbP; obtain ⟨d0, d1, d2⟩ := cells3q hbx1.out; have f0 := frozenq hbx1.out 0; have f1 := frozenq hbx1.out 1; have f2 := frozenq hbx1.out 2))
    | fail))
  all_goals
    first
      | (obtain ⟨u4, q, hu4, hq, hbox, hq4, hkk, hks⟩ := leafDq (.slice none 0 0) (.int .i64 0) (.slice none 0 0) hq1; rw [← hu4, ← hq])
      | (obtain ⟨u4, q, hu4, hq, hbox, hq4, hkk, hks⟩ := leafSq (.slice none 0 0) (.int .i64 0) (.slice none 0 0) hq1 hbx1 (Nat.le_refl _); rw [← hu4, ← hq])
    clear hu4 hq hbP hq1 HS HQ2 hkk hks
    go_wp2
    go_ret2
    exact ⟨rfl, hbA.trans (hq4.mono hbA.size)⟩

set_option maxRecDepth 100000 in
set_option maxHeartbeats 8000000 in
theorem i_tryYes0 {line x0 x1 x2 x3 : ByteArray} {w : World} {a0 a1 : Addr} (hs : line.size ≤ 1048576) (HX : Hid (pcs 32 line = [x0, x1, x2, x3])) (HA : Hid (∀ w, Calls Tryz.prog 48 #[.string x0] w fun e w' => e = .returned (.func (.func 58) #[] #[]) ∧ w' = w)) (hD : DeskW w a0 a1)
    {m : List Int} {L : List (List Int)} {t : Int} {V : ByteArray}
    (HQ : Hid (∀ w', DeskW w' a0 a1 → Calls Tryz.prog 49 #[.string x1, .string x2, .string x3] w' (fun e w'' => ∃ a c a' c', e = .returned (.tuple #[.agg #[.slice a m.length c, .int .i64 t, .slice a' L.length c'], .nilIface]) ∧ RI w'' w'.heap.size w''.heap.size a m ∧ RIIc w'' w'.heap.size w''.heap.size a' c' L ∧ Below w'.heap.size w' w'')))
    (HF : Hid (∀ w' lo hi a c a' c', DeskW w' a0 a1 → RI w' lo hi a m → RIIc w' lo hi a' c' L → hi ≤ w'.heap.size → Calls Tryz.prog 58 #[.agg #[.slice a m.length c, .int .i64 t, .slice a' L.length c']] w' (NewV w' (.string V)))) :
    Calls Tryz.prog 34 #[.string line] w (tryR w V .nilIface) := by
  have hsp := x_Split1 line 32 w (by omega)
  rw [HX.out] at hsp
  have HSP := Lib.hid hsp
  have hbA := (Below.refl w.heap.size w).alloc (Nat.le_refl _) (.cells (([x0, x1, x2, x3]).map Value.string).toArray 9)
  have hD1 := hD.below hbA (Nat.le_refl _)
  have k0 := split_cells (X := [x0, x1, x2, x3]) (w := w) (k := 0) (p := x0) rfl
  have k1 := split_cells (X := [x0, x1, x2, x3]) (w := w) (k := 1) (p := x1) rfl
  have k2 := split_cells (X := [x0, x1, x2, x3]) (w := w) (k := 2) (p := x2) rfl
  have k3 := split_cells (X := [x0, x1, x2, x3]) (w := w) (k := 3) (p := x3) rfl
  have i0 : ∀ wx : World, (Instr.indexAt 22 (.slice (some ⟨w.heap.size, 0, none⟩) 4 4) (.int .i64 0)).run Tryz.prog wx = .ok (.pointer (some ⟨w.heap.size, 0, none⟩)) wx := fun wx => idxSt (a := some ⟨w.heap.size, 0, none⟩) (len := 4) (k := 0) rfl (by omega) 4 wx
  have i1 : ∀ wx : World, (Instr.indexAt 22 (.slice (some ⟨w.heap.size, 0, none⟩) 4 4) (.int .i64 1)).run Tryz.prog wx = .ok (.pointer (some ⟨w.heap.size, 1, none⟩)) wx := fun wx => by have h := idxSt (a := some ⟨w.heap.size, 0, none⟩) (len := 4) (k := 1) rfl (by omega) 4 wx; simpa using h
  have i2 : ∀ wx : World, (Instr.indexAt 22 (.slice (some ⟨w.heap.size, 0, none⟩) 4 4) (.int .i64 2)).run Tryz.prog wx = .ok (.pointer (some ⟨w.heap.size, 2, none⟩)) wx := fun wx => by have h := idxSt (a := some ⟨w.heap.size, 0, none⟩) (len := 4) (k := 2) rfl (by omega) 4 wx; simpa using h
  have i3 : ∀ wx : World, (Instr.indexAt 22 (.slice (some ⟨w.heap.size, 0, none⟩) 4 4) (.int .i64 3)).run Tryz.prog wx = .ok (.pointer (some ⟨w.heap.size, 3, none⟩)) wx := fun wx => by have h := idxSt (a := some ⟨w.heap.size, 0, none⟩) (len := 4) (k := 3) rfl (by omega) 4 wx; simpa using h
  have fn := eqlFN 58
  clear hsp hD
  go_enter Tryz.func34, Tryz.ntmps34
  go_wp2_with fail
  refine (HSP.out).mono ?_
  rintro e w1 ⟨rfl, hw1⟩
  rw [← hw1] at k0 k1 k2 k3 hbA hD1
  have hz1 : w1.heap.size = w.heap.size + 1 := by rw [hw1]; simp
  clear hw1
  go_wp2_with fail
  refine (HA.out w1).mono ?_
  rintro e w2 ⟨rfl, rfl⟩
  have HS : Hid (∀ w', Below w2.heap.size w2 w' → w'.cell? ⟨w.heap.size, 1, none⟩ = some (.string x1) ∧ w'.cell? ⟨w.heap.size, 2, none⟩ = some (.string x2) ∧ w'.cell? ⟨w.heap.size, 3, none⟩ = some (.string x3)) := fun w' hb =>
    ⟨(hb.cell (p := ⟨w.heap.size, 1, none⟩) (by show w.heap.size < _; omega)).trans k1, (hb.cell (p := ⟨w.heap.size, 2, none⟩) (by show w.heap.size < _; omega)).trans k2, (hb.cell (p := ⟨w.heap.size, 3, none⟩) (by show w.heap.size < _; omega)).trans k3⟩
  have HD2 := Lib.hid hD1
  have HQ2 : Hid (∀ w', Below w2.heap.size w2 w' → Calls Tryz.prog 49 #[.string x1, .string x2, .string x3] w' (fun e w'' => ∃ a c a' c', e = .returned (.tuple #[.agg #[.slice a m.length c, .int .i64 t, .slice a' L.length c'], .nilIface]) ∧ RI w'' w'.heap.size w''.heap.size a m ∧ RIIc w'' w'.heap.size w''.heap.size a' c' L ∧ Below w'.heap.size w' w'')) := fun w' hb => HQ.out w' (hD1.below hb (Nat.le_refl _))
  have hq0 : Below w2.heap.size w2 w2 := Below.refl _ _
  have HZ := Lib.hid hz1
  clear k0 k1 k2 k3 hD1 hz1
  go_wp2_with fail
  go_region_held3 (fun w' => w'.cell? ⟨w.heap.size, 1, none⟩ = some (.string x1) ∧ w'.cell? ⟨w.heap.size, 2, none⟩ = some (.string x2) ∧ w'.cell? ⟨w.heap.size, 3, none⟩ = some (.string x3)) (first | (refine HS.out _ ?_; (repeat (first | with_reducible exact hq1 | with_reducible exact hq0 | with_reducible refine dBelowA ?_ _ | with_reducible refine dBelowD ?_)); done) | (have hh := HS.out _ hq1; exact ⟨qset (by have := HZ.out; omega) hh.1, qset (by have := HZ.out; omega) hh.2.1, qset (by have := HZ.out; omega) hh.2.2⟩) | go_keep) ((first
    | (go_at_call 49; refine (HQ2.out _ (by (repeat (first | with_reducible exact hq0 | with_reducible refine dBelowA ?_ _ | with_reducible refine dBelowD ?_)))).mono ?_; rintro e v1 ⟨ma, mc, la, lc, rfl, hmP, hlP, hbP⟩; have hq1 : Below w2.heap.size w2 v1 := dBelowS (by (repeat (first | with_reducible exact hq0 | with_reducible refine dBelowA ?_ _ | with_reducible refine dBelowD ?_))) hbP; try (have hbx1 : Hid (v1.heap[w2.heap.size]? = some (.cells #[.slice none 0 0, .int .i64 0, .slice none 0 0] 83 (0, 0))) := zqD (v0 := w2) hbP; obtain ⟨d0, d1, d2⟩ := cells3q hbx1.out; have f0 := frozenq hbx1.out 0; have f1 := frozenq hbx1.out 1; have f2 := frozenq hbx1.out 2))
    | fail))
  all_goals
    first
      | (obtain ⟨u4, q, hu4, hq, hbox, hq4, hkk, hks⟩ := leafDq (.slice ma m.length mc) (.int .i64 t) (.slice la L.length lc) hq1; rw [← hu4, ← hq])
      | (obtain ⟨u4, q, hu4, hq, hbox, hq4, hkk, hks⟩ := leafSq (.slice ma m.length mc) (.int .i64 t) (.slice la L.length lc) hq1 hbx1 (Nat.le_refl _); rw [← hu4, ← hq])
    obtain ⟨d0, d1, d2⟩ := cells3q hbox
    have hD4 := HD2.out.below hq4 (Nat.le_refl _)
    have hm4 := hmP.same (w' := u4) fun k k1 k2 => hkk k (by first | omega | (have := Nat.lt_of_lt_of_le (ltAD w2 _) k1; omega))
    have hl4 : RIIc u4 _ v1.heap.size la lc L := ⟨hlP.rii.same (w' := u4) fun k k1 k2 => hkk k (by first | omega | (have := Nat.lt_of_lt_of_le (ltAD w2 _) k1; omega)), hlP.cap⟩
    clear hu4 hq hbP hq1 HS HQ2 hkk hmP hlP
    go_wp2_with fail
    refine (HF.out u4 _ v1.heap.size _ _ _ _ hD4 hm4 hl4 hks).mono ?_
    rintro e w6 ⟨rfl, b6⟩
    have hb6 := (hbA.trans (hq4.mono hbA.size)).trans (b6.mono (Nat.le_trans hbA.size hq4.size))
    go_wp2
    go_ret2
    exact ⟨rfl, hb6⟩

set_option maxRecDepth 100000 in
set_option maxHeartbeats 8000000 in
theorem i_tryYes1 {line x0 x1 x2 x3 : ByteArray} {w : World} {a0 a1 : Addr} (hs : line.size ≤ 1048576) (HX : Hid (pcs 32 line = [x0, x1, x2, x3])) (HA : Hid (∀ w, Calls Tryz.prog 48 #[.string x0] w fun e w' => e = .returned (.func (.func 59) #[] #[]) ∧ w' = w)) (hD : DeskW w a0 a1)
    {m : List Int} {L : List (List Int)} {t : Int} {V : ByteArray}
    (HQ : Hid (∀ w', DeskW w' a0 a1 → Calls Tryz.prog 49 #[.string x1, .string x2, .string x3] w' (fun e w'' => ∃ a c a' c', e = .returned (.tuple #[.agg #[.slice a m.length c, .int .i64 t, .slice a' L.length c'], .nilIface]) ∧ RI w'' w'.heap.size w''.heap.size a m ∧ RIIc w'' w'.heap.size w''.heap.size a' c' L ∧ Below w'.heap.size w' w'')))
    (HF : Hid (∀ w' lo hi a c a' c', DeskW w' a0 a1 → RI w' lo hi a m → RIIc w' lo hi a' c' L → hi ≤ w'.heap.size → Calls Tryz.prog 59 #[.agg #[.slice a m.length c, .int .i64 t, .slice a' L.length c']] w' (NewV w' (.string V)))) :
    Calls Tryz.prog 34 #[.string line] w (tryR w V .nilIface) := by
  have hsp := x_Split1 line 32 w (by omega)
  rw [HX.out] at hsp
  have HSP := Lib.hid hsp
  have hbA := (Below.refl w.heap.size w).alloc (Nat.le_refl _) (.cells (([x0, x1, x2, x3]).map Value.string).toArray 9)
  have hD1 := hD.below hbA (Nat.le_refl _)
  have k0 := split_cells (X := [x0, x1, x2, x3]) (w := w) (k := 0) (p := x0) rfl
  have k1 := split_cells (X := [x0, x1, x2, x3]) (w := w) (k := 1) (p := x1) rfl
  have k2 := split_cells (X := [x0, x1, x2, x3]) (w := w) (k := 2) (p := x2) rfl
  have k3 := split_cells (X := [x0, x1, x2, x3]) (w := w) (k := 3) (p := x3) rfl
  have i0 : ∀ wx : World, (Instr.indexAt 22 (.slice (some ⟨w.heap.size, 0, none⟩) 4 4) (.int .i64 0)).run Tryz.prog wx = .ok (.pointer (some ⟨w.heap.size, 0, none⟩)) wx := fun wx => idxSt (a := some ⟨w.heap.size, 0, none⟩) (len := 4) (k := 0) rfl (by omega) 4 wx
  have i1 : ∀ wx : World, (Instr.indexAt 22 (.slice (some ⟨w.heap.size, 0, none⟩) 4 4) (.int .i64 1)).run Tryz.prog wx = .ok (.pointer (some ⟨w.heap.size, 1, none⟩)) wx := fun wx => by have h := idxSt (a := some ⟨w.heap.size, 0, none⟩) (len := 4) (k := 1) rfl (by omega) 4 wx; simpa using h
  have i2 : ∀ wx : World, (Instr.indexAt 22 (.slice (some ⟨w.heap.size, 0, none⟩) 4 4) (.int .i64 2)).run Tryz.prog wx = .ok (.pointer (some ⟨w.heap.size, 2, none⟩)) wx := fun wx => by have h := idxSt (a := some ⟨w.heap.size, 0, none⟩) (len := 4) (k := 2) rfl (by omega) 4 wx; simpa using h
  have i3 : ∀ wx : World, (Instr.indexAt 22 (.slice (some ⟨w.heap.size, 0, none⟩) 4 4) (.int .i64 3)).run Tryz.prog wx = .ok (.pointer (some ⟨w.heap.size, 3, none⟩)) wx := fun wx => by have h := idxSt (a := some ⟨w.heap.size, 0, none⟩) (len := 4) (k := 3) rfl (by omega) 4 wx; simpa using h
  have fn := eqlFN 59
  clear hsp hD
  go_enter Tryz.func34, Tryz.ntmps34
  go_wp2_with fail
  refine (HSP.out).mono ?_
  rintro e w1 ⟨rfl, hw1⟩
  rw [← hw1] at k0 k1 k2 k3 hbA hD1
  have hz1 : w1.heap.size = w.heap.size + 1 := by rw [hw1]; simp
  clear hw1
  go_wp2_with fail
  refine (HA.out w1).mono ?_
  rintro e w2 ⟨rfl, rfl⟩
  have HS : Hid (∀ w', Below w2.heap.size w2 w' → w'.cell? ⟨w.heap.size, 1, none⟩ = some (.string x1) ∧ w'.cell? ⟨w.heap.size, 2, none⟩ = some (.string x2) ∧ w'.cell? ⟨w.heap.size, 3, none⟩ = some (.string x3)) := fun w' hb =>
    ⟨(hb.cell (p := ⟨w.heap.size, 1, none⟩) (by show w.heap.size < _; omega)).trans k1, (hb.cell (p := ⟨w.heap.size, 2, none⟩) (by show w.heap.size < _; omega)).trans k2, (hb.cell (p := ⟨w.heap.size, 3, none⟩) (by show w.heap.size < _; omega)).trans k3⟩
  have HD2 := Lib.hid hD1
  have HQ2 : Hid (∀ w', Below w2.heap.size w2 w' → Calls Tryz.prog 49 #[.string x1, .string x2, .string x3] w' (fun e w'' => ∃ a c a' c', e = .returned (.tuple #[.agg #[.slice a m.length c, .int .i64 t, .slice a' L.length c'], .nilIface]) ∧ RI w'' w'.heap.size w''.heap.size a m ∧ RIIc w'' w'.heap.size w''.heap.size a' c' L ∧ Below w'.heap.size w' w'')) := fun w' hb => HQ.out w' (hD1.below hb (Nat.le_refl _))
  have hq0 : Below w2.heap.size w2 w2 := Below.refl _ _
  have HZ := Lib.hid hz1
  clear k0 k1 k2 k3 hD1 hz1
  go_wp2_with fail
  go_region_held3 (fun w' => w'.cell? ⟨w.heap.size, 1, none⟩ = some (.string x1) ∧ w'.cell? ⟨w.heap.size, 2, none⟩ = some (.string x2) ∧ w'.cell? ⟨w.heap.size, 3, none⟩ = some (.string x3)) (first | (refine HS.out _ ?_; (repeat (first | with_reducible exact hq1 | with_reducible exact hq0 | with_reducible refine dBelowA ?_ _ | with_reducible refine dBelowD ?_)); done) | (have hh := HS.out _ hq1; exact ⟨qset (by have := HZ.out; omega) hh.1, qset (by have := HZ.out; omega) hh.2.1, qset (by have := HZ.out; omega) hh.2.2⟩) | go_keep) ((first
    | (go_at_call 49; refine (HQ2.out _ (by (repeat (first | with_reducible exact hq0 | with_reducible refine dBelowA ?_ _ | with_reducible refine dBelowD ?_)))).mono ?_; rintro e v1 ⟨ma, mc, la, lc, rfl, hmP, hlP, hbP⟩; have hq1 : Below w2.heap.size w2 v1 := dBelowS (by (repeat (first | with_reducible exact hq0 | with_reducible refine dBelowA ?_ _ | with_reducible refine dBelowD ?_))) hbP; try (have hbx1 : Hid (v1.heap[w2.heap.size]? = some (.cells #[.slice none 0 0, .int .i64 0, .slice none 0 0] 83 (0, 0))) := zqD (v0 := w2) hbP; obtain ⟨d0, d1, d2⟩ := cells3q hbx1.out; have f0 := frozenq hbx1.out 0; have f1 := frozenq hbx1.out 1; have f2 := frozenq hbx1.out 2))
    | fail))
  all_goals
    first
      | (obtain ⟨u4, q, hu4, hq, hbox, hq4, hkk, hks⟩ := leafDq (.slice ma m.length mc) (.int .i64 t) (.slice la L.length lc) hq1; rw [← hu4, ← hq])
      | (obtain ⟨u4, q, hu4, hq, hbox, hq4, hkk, hks⟩ := leafSq (.slice ma m.length mc) (.int .i64 t) (.slice la L.length lc) hq1 hbx1 (Nat.le_refl _); rw [← hu4, ← hq])
    obtain ⟨d0, d1, d2⟩ := cells3q hbox
    have hD4 := HD2.out.below hq4 (Nat.le_refl _)
    have hm4 := hmP.same (w' := u4) fun k k1 k2 => hkk k (by first | omega | (have := Nat.lt_of_lt_of_le (ltAD w2 _) k1; omega))
    have hl4 : RIIc u4 _ v1.heap.size la lc L := ⟨hlP.rii.same (w' := u4) fun k k1 k2 => hkk k (by first | omega | (have := Nat.lt_of_lt_of_le (ltAD w2 _) k1; omega)), hlP.cap⟩
    clear hu4 hq hbP hq1 HS HQ2 hkk hmP hlP
    go_wp2_with fail
    refine (HF.out u4 _ v1.heap.size _ _ _ _ hD4 hm4 hl4 hks).mono ?_
    rintro e w6 ⟨rfl, b6⟩
    have hb6 := (hbA.trans (hq4.mono hbA.size)).trans (b6.mono (Nat.le_trans hbA.size hq4.size))
    go_wp2
    go_ret2
    exact ⟨rfl, hb6⟩

set_option maxRecDepth 100000 in
set_option maxHeartbeats 8000000 in
theorem i_tryYes2 {line x0 x1 x2 x3 : ByteArray} {w : World} {a0 a1 : Addr} (hs : line.size ≤ 1048576) (HX : Hid (pcs 32 line = [x0, x1, x2, x3])) (HA : Hid (∀ w, Calls Tryz.prog 48 #[.string x0] w fun e w' => e = .returned (.func (.func 60) #[] #[]) ∧ w' = w)) (hD : DeskW w a0 a1)
    {m : List Int} {L : List (List Int)} {t : Int} {V : ByteArray}
    (HQ : Hid (∀ w', DeskW w' a0 a1 → Calls Tryz.prog 49 #[.string x1, .string x2, .string x3] w' (fun e w'' => ∃ a c a' c', e = .returned (.tuple #[.agg #[.slice a m.length c, .int .i64 t, .slice a' L.length c'], .nilIface]) ∧ RI w'' w'.heap.size w''.heap.size a m ∧ RIIc w'' w'.heap.size w''.heap.size a' c' L ∧ Below w'.heap.size w' w'')))
    (HF : Hid (∀ w' lo hi a c a' c', DeskW w' a0 a1 → RI w' lo hi a m → RIIc w' lo hi a' c' L → hi ≤ w'.heap.size → Calls Tryz.prog 60 #[.agg #[.slice a m.length c, .int .i64 t, .slice a' L.length c']] w' (NewV w' (.string V)))) :
    Calls Tryz.prog 34 #[.string line] w (tryR w V .nilIface) := by
  have hsp := x_Split1 line 32 w (by omega)
  rw [HX.out] at hsp
  have HSP := Lib.hid hsp
  have hbA := (Below.refl w.heap.size w).alloc (Nat.le_refl _) (.cells (([x0, x1, x2, x3]).map Value.string).toArray 9)
  have hD1 := hD.below hbA (Nat.le_refl _)
  have k0 := split_cells (X := [x0, x1, x2, x3]) (w := w) (k := 0) (p := x0) rfl
  have k1 := split_cells (X := [x0, x1, x2, x3]) (w := w) (k := 1) (p := x1) rfl
  have k2 := split_cells (X := [x0, x1, x2, x3]) (w := w) (k := 2) (p := x2) rfl
  have k3 := split_cells (X := [x0, x1, x2, x3]) (w := w) (k := 3) (p := x3) rfl
  have i0 : ∀ wx : World, (Instr.indexAt 22 (.slice (some ⟨w.heap.size, 0, none⟩) 4 4) (.int .i64 0)).run Tryz.prog wx = .ok (.pointer (some ⟨w.heap.size, 0, none⟩)) wx := fun wx => idxSt (a := some ⟨w.heap.size, 0, none⟩) (len := 4) (k := 0) rfl (by omega) 4 wx
  have i1 : ∀ wx : World, (Instr.indexAt 22 (.slice (some ⟨w.heap.size, 0, none⟩) 4 4) (.int .i64 1)).run Tryz.prog wx = .ok (.pointer (some ⟨w.heap.size, 1, none⟩)) wx := fun wx => by have h := idxSt (a := some ⟨w.heap.size, 0, none⟩) (len := 4) (k := 1) rfl (by omega) 4 wx; simpa using h
  have i2 : ∀ wx : World, (Instr.indexAt 22 (.slice (some ⟨w.heap.size, 0, none⟩) 4 4) (.int .i64 2)).run Tryz.prog wx = .ok (.pointer (some ⟨w.heap.size, 2, none⟩)) wx := fun wx => by have h := idxSt (a := some ⟨w.heap.size, 0, none⟩) (len := 4) (k := 2) rfl (by omega) 4 wx; simpa using h
  have i3 : ∀ wx : World, (Instr.indexAt 22 (.slice (some ⟨w.heap.size, 0, none⟩) 4 4) (.int .i64 3)).run Tryz.prog wx = .ok (.pointer (some ⟨w.heap.size, 3, none⟩)) wx := fun wx => by have h := idxSt (a := some ⟨w.heap.size, 0, none⟩) (len := 4) (k := 3) rfl (by omega) 4 wx; simpa using h
  have fn := eqlFN 60
  clear hsp hD
  go_enter Tryz.func34, Tryz.ntmps34
  go_wp2_with fail
  refine (HSP.out).mono ?_
  rintro e w1 ⟨rfl, hw1⟩
  rw [← hw1] at k0 k1 k2 k3 hbA hD1
  have hz1 : w1.heap.size = w.heap.size + 1 := by rw [hw1]; simp
  clear hw1
  go_wp2_with fail
  refine (HA.out w1).mono ?_
  rintro e w2 ⟨rfl, rfl⟩
  have HS : Hid (∀ w', Below w2.heap.size w2 w' → w'.cell? ⟨w.heap.size, 1, none⟩ = some (.string x1) ∧ w'.cell? ⟨w.heap.size, 2, none⟩ = some (.string x2) ∧ w'.cell? ⟨w.heap.size, 3, none⟩ = some (.string x3)) := fun w' hb =>
    ⟨(hb.cell (p := ⟨w.heap.size, 1, none⟩) (by show w.heap.size < _; omega)).trans k1, (hb.cell (p := ⟨w.heap.size, 2, none⟩) (by show w.heap.size < _; omega)).trans k2, (hb.cell (p := ⟨w.heap.size, 3, none⟩) (by show w.heap.size < _; omega)).trans k3⟩
  have HD2 := Lib.hid hD1
  have HQ2 : Hid (∀ w', Below w2.heap.size w2 w' → Calls Tryz.prog 49 #[.string x1, .string x2, .string x3] w' (fun e w'' => ∃ a c a' c', e = .returned (.tuple #[.agg #[.slice a m.length c, .int .i64 t, .slice a' L.length c'], .nilIface]) ∧ RI w'' w'.heap.size w''.heap.size a m ∧ RIIc w'' w'.heap.size w''.heap.size a' c' L ∧ Below w'.heap.size w' w'')) := fun w' hb => HQ.out w' (hD1.below hb (Nat.le_refl _))
  have hq0 : Below w2.heap.size w2 w2 := Below.refl _ _
  have HZ := Lib.hid hz1
  clear k0 k1 k2 k3 hD1 hz1
  go_wp2_with fail
  go_region_held3 (fun w' => w'.cell? ⟨w.heap.size, 1, none⟩ = some (.string x1) ∧ w'.cell? ⟨w.heap.size, 2, none⟩ = some (.string x2) ∧ w'.cell? ⟨w.heap.size, 3, none⟩ = some (.string x3)) (first | (refine HS.out _ ?_; (repeat (first | with_reducible exact hq1 | with_reducible exact hq0 | with_reducible refine dBelowA ?_ _ | with_reducible refine dBelowD ?_)); done) | (have hh := HS.out _ hq1; exact ⟨qset (by have := HZ.out; omega) hh.1, qset (by have := HZ.out; omega) hh.2.1, qset (by have := HZ.out; omega) hh.2.2⟩) | go_keep) ((first
    | (go_at_call 49; refine (HQ2.out _ (by (repeat (first | with_reducible exact hq0 | with_reducible refine dBelowA ?_ _ | with_reducible refine dBelowD ?_)))).mono ?_; rintro e v1 ⟨ma, mc, la, lc, rfl, hmP, hlP, hbP⟩; have hq1 : Below w2.heap.size w2 v1 := dBelowS (by (repeat (first | with_reducible exact hq0 | with_reducible refine dBelowA ?_ _ | with_reducible refine dBelowD ?_))) hbP; try (have hbx1 : Hid (v1.heap[w2.heap.size]? = some (.cells #[.slice none 0 0, .int .i64 0, .slice none 0 0] 83 (0, 0))) := zqD (v0 := w2) hbP; obtain ⟨d0, d1, d2⟩ := cells3q hbx1.out; have f0 := frozenq hbx1.out 0; have f1 := frozenq hbx1.out 1; have f2 := frozenq hbx1.out 2))
    | fail))
  all_goals
    first
      | (obtain ⟨u4, q, hu4, hq, hbox, hq4, hkk, hks⟩ := leafDq (.slice ma m.length mc) (.int .i64 t) (.slice la L.length lc) hq1; rw [← hu4, ← hq])
      | (obtain ⟨u4, q, hu4, hq, hbox, hq4, hkk, hks⟩ := leafSq (.slice ma m.length mc) (.int .i64 t) (.slice la L.length lc) hq1 hbx1 (Nat.le_refl _); rw [← hu4, ← hq])
    obtain ⟨d0, d1, d2⟩ := cells3q hbox
    have hD4 := HD2.out.below hq4 (Nat.le_refl _)
    have hm4 := hmP.same (w' := u4) fun k k1 k2 => hkk k (by first | omega | (have := Nat.lt_of_lt_of_le (ltAD w2 _) k1; omega))
    have hl4 : RIIc u4 _ v1.heap.size la lc L := ⟨hlP.rii.same (w' := u4) fun k k1 k2 => hkk k (by first | omega | (have := Nat.lt_of_lt_of_le (ltAD w2 _) k1; omega)), hlP.cap⟩
    clear hu4 hq hbP hq1 HS HQ2 hkk hmP hlP
    go_wp2_with fail
    refine (HF.out u4 _ v1.heap.size _ _ _ _ hD4 hm4 hl4 hks).mono ?_
    rintro e w6 ⟨rfl, b6⟩
    have hb6 := (hbA.trans (hq4.mono hbA.size)).trans (b6.mono (Nat.le_trans hbA.size hq4.size))
    go_wp2
    go_ret2
    exact ⟨rfl, hb6⟩

/- The desk of the program: a line's answer; RunDesk. -/
open Go Go.Shelf Go.RowKit

/-- how a line's trial comes out -/
def TryO (line : ByteArray) (w : World) (a0 a1 : Addr) : Prop :=
  Calls Tryz.prog 34 #[.string line] w (tryR w (anS line) .nilIface) ∨
  (Calls Tryz.prog 34 #[.string line] w (tryR w ⟨#[]⟩ (.iface 165 (.pointer (some a0)))) ∧ anS line = wrongS) ∨
  (Calls Tryz.prog 34 #[.string line] w (tryR w ⟨#[]⟩ (.iface 165 (.pointer (some a1)))) ∧ anS line = whatS)

theorem try_q {line x0 x1 x2 x3 : ByteArray} {w : World} {a0 a1 : Addr} {fq : FuncId} (hs : line.size ≤ 1048576) (hX : pcs 32 line = [x0, x1, x2, x3]) (hk : dkK x0 ≠ 3) (HA : Hid (∀ w, Calls Tryz.prog 48 #[.string x0] w fun e w' => e = .returned (.func (.func fq) #[] #[]) ∧ w' = w)) (hD : DeskW w a0 a1)
    (hy : qoB x1 x2 x3 = true → Calls Tryz.prog 34 #[.string line] w (tryR w (dkV (dkK x0) (rdL x1) (psR x3) (dkN x2)) .nilIface)) : TryO line w a0 a1 := by
  have e : anS line = anW x0 x1 x2 x3 := by unfold anS; rw [hX]; rfl
  have hsz : ∀ p ∈ pcs 32 line, p.size ≤ line.size := fun p hp => pcs_size hp
  rw [hX] at hsz
  have hz1 := hsz x1 (by simp)
  have hz2 := hsz x2 (by simp)
  have hz3 := hsz x3 (by simp)
  cases hq : qoB x1 x2 x3
  · right; left
    have hw : anW x0 x1 x2 x3 = wrongS := by
      refine an_wrong hk ?_
      unfold qoB at hq
      rw [Bool.and_eq_false_iff] at hq
      exact hq
    refine ⟨i_tryWrong hs hX HA hD ?_, e.trans hw⟩
    show ∀ w', _ → _
    intro w' hD'
    have hl1 : (dgO x1).length ≤ 1048576 := by unfold dgO; split <;> simp [rdL_len]; omega
    have hl2 : (dgO x2).length ≤ 1048576 := by unfold dgO; split <;> simp [rdL_len]; omega
    rcases qo_no hq with h | ⟨t, ht, h | ⟨h, h'⟩⟩
    · exact i_questionA (by omega) (by omega) (by omega) hD' (Lib.hid rfl) (Lib.hid rfl) hl1 hl2 h
    · exact i_questionB (by omega) (by omega) (by omega) hD' (Lib.hid rfl) (Lib.hid ht) hl1 (Lib.hid h)
    · exact i_questionC (by omega) (by omega) (by omega) hD' (Lib.hid rfl) (Lib.hid ht) hl1 (Lib.hid h) (Lib.hid h')
  · left
    have hq2 := hq
    unfold qoB at hq2
    rw [Bool.and_eq_true] at hq2
    rw [e, an_yes hk hq2.1 hq2.2]
    exact hy hq
theorem i_tryAnswer {line : ByteArray} {w : World} {a0 a1 : Addr} (hs : line.size ≤ 1048576) (hD : DeskW w a0 a1) : TryO line w a0 a1 := by
  obtain ⟨x0, X, hX⟩ : ∃ x0 X, pcs 32 line = x0 :: X := by
    cases h : pcs 32 line with
    | nil => exact absurd h (pcs_ne 32 line)
    | cons x0 X => exact ⟨x0, X, rfl⟩
  by_cases h4 : (pcs 32 line).length = 4
  case neg =>
    have e : anS line = whatS := anX_len h4
    rw [hX] at h4
    right; right
    refine ⟨?_, e⟩
    rcases dk_cases x0 with ⟨_, hc⟩ | ⟨_, hc⟩ | ⟨_, hc⟩ | ⟨_, hc⟩
    · exact i_tryLen hs (Lib.hid hX) h4 (fq := 58) (fun _ => i_answerOf0 hc) hD
    · exact i_tryLen hs (Lib.hid hX) h4 (fq := 59) (fun _ => i_answerOf1 hc) hD
    · exact i_tryLen hs (Lib.hid hX) h4 (fq := 60) (fun _ => i_answerOf2 hc) hD
    · exact i_tryNone hs (Lib.hid hX) hc hD
  clear hX X x0
  obtain ⟨x0, x1, x2, x3, hX⟩ := four h4
  have e : anS line = anW x0 x1 x2 x3 := by unfold anS; rw [hX]; rfl
  have hsz : ∀ p ∈ pcs 32 line, p.size ≤ line.size := fun p hp => pcs_size hp
  rw [hX] at hsz
  have hz1 := hsz x1 (by simp)
  have hz2 := hsz x2 (by simp)
  have hz3 := hsz x3 (by simp)
  have hl1 : (rdL x1).length ≤ 1048576 := by rw [rdL_len]; omega
  have hRL := psR_len x3
  have hRG : ∀ r ∈ psR x3, r.length ≤ 9223372036854775807 := fun r hr => by have := psR_row hr; omega
  have HQ : qoB x1 x2 x3 = true → Hid (∀ w', DeskW w' a0 a1 → Calls Tryz.prog 49 #[.string x1, .string x2, .string x3] w' (fun e w'' => ∃ a c a' c', e = .returned (.tuple #[.agg #[.slice a (rdL x1).length c, .int .i64 (dkN x2), .slice a' (psR x3).length c'], .nilIface]) ∧ RI w'' w'.heap.size w''.heap.size a (rdL x1) ∧ RIIc w'' w'.heap.size w''.heap.size a' c' (psR x3) ∧ Below w'.heap.size w' w'')) := fun hq w' hD' => by
    obtain ⟨g1, g2, g3, g4⟩ := qo_yes hq
    exact i_questionY (by omega) (by omega) (by omega) hD' (Lib.hid g1) (Lib.hid g2) hl1 (Lib.hid g3) (Lib.hid g4)
  have HO : qoB x1 x2 x3 = true → okM (rdL x1) = true ∧ okS (rdL x1) (psR x3) = true ∧ 0 ≤ dkN x2 ∧ dkN x2 ≤ (rdL x1).length := fun hq => by
    obtain ⟨g1, g2, g3, g4⟩ := qo_yes hq
    have h := inR_true.1 g3
    unfold psB at g4
    rw [Bool.and_eq_true] at g4
    exact ⟨g4.1, g4.2, h.1, h.2⟩
  rcases dk_cases x0 with ⟨hk, hc⟩ | ⟨hk, hc⟩ | ⟨hk, hc⟩ | ⟨hk, hc⟩
  · refine try_q hs hX (by rw [hk]; decide) (fun _ => i_answerOf0 hc) hD fun hq => ?_
    obtain ⟨o1, o2, o3, o4⟩ := HO hq
    rw [hk]
    exact i_tryYes0 hs hX (fun _ => i_answerOf0 hc) hD (HQ hq) (fun w' lo hi a c a' c' hD' hm hl hh => i_covered hm hl.rii (by omega) (by omega) hRG hh hh o1 o2 o3 o4 hD')
  · refine try_q hs hX (by rw [hk]; decide) (fun _ => i_answerOf1 hc) hD fun hq => ?_
    obtain ⟨o1, o2, o3, o4⟩ := HO hq
    rw [hk]
    exact i_tryYes1 hs hX (fun _ => i_answerOf1 hc) hD (HQ hq) (fun w' lo hi a c a' c' hD' hm hl hh => i_grown hm hl.rii (by omega) (by omega) hRG hh hh o1 o2 o3 o4)
  · refine try_q hs hX (by rw [hk]; decide) (fun _ => i_answerOf2 hc) hD fun hq => ?_
    obtain ⟨o1, o2, o3, o4⟩ := HO hq
    rw [hk]
    exact i_tryYes2 hs hX (fun _ => i_answerOf2 hc) hD (HQ hq) (fun w' lo hi a c a' c' hD' hm hl hh => i_trimmed hm hl.rii (by omega) (by omega) hl.cap hRG hh hh o1 o2 o3 o4)
  · right; right
    exact ⟨i_tryNone hs (Lib.hid hX) hc hD, by rw [e]; unfold anW; rw [if_pos hk]⟩

set_option maxRecDepth 100000 in
set_option maxHeartbeats 2000000 in
theorem i_answerToN {line s : ByteArray} {w : World} {a0 a1 : Addr} (hD : DeskW w a0 a1) (HT : Hid (Calls Tryz.prog 34 #[.string line] w (tryR w s .nilIface))) : Calls Tryz.prog 14 #[.string line] w (NewV w (.string s)) := by
  go_enter Tryz.func14, Tryz.ntmps14
  go_wp2_with fail
  refine HT.out.mono ?_
  rintro e w1 ⟨rfl, b1⟩
  have hD1 := hD.below b1 (Nat.le_refl _)
  have e0 := hD1.e0
  have e1 := hD1.e1
  go_wp2_with fail
  refine (is_nilK a0 w1).mono ?_
  rintro e w2 ⟨rfl, rfl⟩
  go_wp2_with fail
  refine (is_nilK a1 w2).mono ?_
  rintro e w3 ⟨rfl, rfl⟩
  go_wp2
  go_ret
  exact ⟨rfl, b1⟩

set_option maxRecDepth 100000 in
set_option maxHeartbeats 2000000 in
theorem i_answerTo0 {line s : ByteArray} {w : World} {a0 a1 : Addr} (hD : DeskW w a0 a1) (HT : Hid (Calls Tryz.prog 34 #[.string line] w (tryR w s (.iface 165 (.pointer (some a0)))))) : Calls Tryz.prog 14 #[.string line] w (NewV w (.string wrongS)) := by
  go_enter Tryz.func14, Tryz.ntmps14
  go_wp2_with fail
  refine HT.out.mono ?_
  rintro e w1 ⟨rfl, b1⟩
  have hD1 := hD.below b1 (Nat.le_refl _)
  have e0 := hD1.e0
  go_wp2_with fail
  refine (is_sameK a0 w1).mono ?_
  rintro e w2 ⟨rfl, rfl⟩
  go_wp2
  go_ret
  exact ⟨rfl, b1⟩

set_option maxRecDepth 100000 in
set_option maxHeartbeats 2000000 in
theorem i_answerTo1 {line s : ByteArray} {w : World} {a0 a1 : Addr} (hD : DeskW w a0 a1) (HT : Hid (Calls Tryz.prog 34 #[.string line] w (tryR w s (.iface 165 (.pointer (some a1)))))) : Calls Tryz.prog 14 #[.string line] w (NewV w (.string whatS)) := by
  go_enter Tryz.func14, Tryz.ntmps14
  go_wp2_with fail
  refine HT.out.mono ?_
  rintro e w1 ⟨rfl, b1⟩
  have hD1 := hD.below b1 (Nat.le_refl _)
  have e0 := hD1.e0
  have e1 := hD1.e1
  obtain ⟨c0, t0, hh0⟩ := hD1.h0
  obtain ⟨c1, t1, hh1⟩ := hD1.h1
  have HO := Lib.hid (is_otherK a1 a0 c1 c0 t1 t0 w1 (fun e => hD1.ne e.symm) hh1 hh0)
  clear hh0 hh1
  go_wp2_with fail
  refine HO.out.mono ?_
  rintro e w2 ⟨rfl, rfl⟩
  go_wp2_with fail
  refine (is_sameK a1 w2).mono ?_
  rintro e w3 ⟨rfl, rfl⟩
  go_wp2
  go_ret
  exact ⟨rfl, b1⟩

theorem i_answerTo {line : ByteArray} {w : World} {a0 a1 : Addr} (hs : line.size ≤ 1048576) (hD : DeskW w a0 a1) : Calls Tryz.prog 14 #[.string line] w (NewV w (.string (anS line))) := by
  rcases i_tryAnswer (a0 := a0) (a1 := a1) hs hD with h | ⟨h, e⟩ | ⟨h, e⟩
  · exact i_answerToN hD h
  · rw [e]; exact i_answerTo0 hD h
  · rw [e]; exact i_answerTo1 hD h

theorem BuilderAt.belowK {T e : TypeId} {B b : Nat} {p : Value} {bs : List Value} {w w' : World} (h : Lib.BuilderAt T e B b p bs w) (hb : Below w.heap.size w w') : Lib.BuilderAt T e B b p bs w' := by
  have hlt := h.lt
  obtain ⟨h1, v, h2, h3, h4⟩ := h
  refine ⟨h1, v, (hb.block b hlt).trans h2, ?_, h4⟩
  refine World.ownsRow.kept h3 (row := none) ⟨hb.os, hb.tape, hb.output, hb.size, fun k hk _ => hb.block k hk⟩ ?_
  cases v.ownBlock <;> simp
theorem IsBuilder.belowK {T e : TypeId} {B b : Nat} {bs : List Value} {w w' : World} (h : Lib.IsBuilder T e B b bs w) (hb : Below w.heap.size w w') : Lib.IsBuilder T e B b bs w' :=
  h.elim (fun x => .inl (BuilderAt.belowK x hb)) (fun x => .inr (BuilderAt.belowK x hb))
theorem dk_cells (X : List ByteArray) (l : ByteArray) : (Lib.byteCells (dkT X).data.toList ++ Lib.strCells (anS l)) ++ [.int .u8 10] = Lib.byteCells (dkT (X ++ [l])).data.toList := by
  rw [dkT_snoc, Lib.strCells_eq]
  have e : ([.int .u8 10] : List Value) = Lib.byteCells [10] := rfl
  rw [e, ← Lib.byteCells_append, ← Lib.byteCells_append]
  congr 1

set_option maxRecDepth 100000 in
set_option maxHeartbeats 4000000 in
theorem i_RunDesk {X : List ByteArray} {a : Option Addr} {c hi : Nat} {w : World} {a0 a1 : Addr} (hX : RSt w hi a X) (hl : X.length ≤ 9223372036854775807) (hs : ∀ p ∈ X, p.size ≤ 1048576) (hB : hi ≤ w.heap.size) (hD : DeskW w a0 a1) :
    Calls Tryz.prog 8 #[.slice a X.length c] w (NewV w (.string (rdT X))) := by
  have HS := Lib.hid hs; clear hs
  have HT : Hid (∀ k, (dkT (X.take k)).data.toList.length ≤ 4097 * k) := fun k => by have h := dkT_size (X.take k); rw [List.length_take] at h; show (dkT (X.take k)).data.toList.length ≤ _; have e : (dkT (X.take k)).data.toList.length = (dkT (X.take k)).size := by simp
                                                                                     omega
  by_cases h20 : 20 < X.length
  · have HR : Hid (rdT X = ⟨#[]⟩) := by show _ = _; unfold rdT; rw [if_pos h20]
    go_enter Tryz.func8, Tryz.ntmps8
    go_wp2
    go_ret
    rw [HR.out]
    exact ⟨rfl, Below.refl _ _⟩
  · have HR : Hid (rdT X = dkT X) := by show _ = _; unfold rdT; rw [if_neg h20]
    have hbA := (Below.refl w.heap.size w).alloc (Nat.le_refl _) (.cells #[.pointer none, .slice none 0 0] 35)
    have hst : Lib.IsBuilder (bldRen.t 72) (bldRen.t 5) w.heap.size w.heap.size (Lib.byteCells (dkT (X.take 0)).data.toList) (w.alloc (.cells #[.pointer none, .slice none 0 0] 35)) :=
      .inl ⟨Nat.le_refl _, .slice none 0 0, heap_alloc_new w _, World.ownsRow_nil _ _ _ _, by simp [Value.ownBlock]⟩
    go_enter Tryz.func8, Tryz.ntmps8
    go_wp2
    go_loopw [11] (fun i wr => ∃ k : Nat, k ≤ X.length ∧ i = .int .i64 k ∧ Hid (Lib.IsBuilder (bldRen.t 72) (bldRen.t 5) w.heap.size w.heap.size (Lib.byteCells (dkT (X.take k)).data.toList) wr) ∧ Below w.heap.size w wr) (fun i _ => X.length - (intOf i).toNat)
    case atStart => exact ⟨0, Nat.zero_le _, rfl, hst, hbA⟩
    case round =>
      clear hst hbA
      obtain ⟨k, hk, rfl, hI, hb⟩ := hrel
      have hz := hb.size
      by_cases hlt : k < X.length
      · obtain ⟨p, hp⟩ := at_of_lt hlt
        obtain ⟨b, o, ha, hbl, hcell⟩ := hX.below hb hB k p hp
        have hidx := idxSt ha hlt c
        have hps := HS.out p (List.mem_of_getElem? hp)
        have hDr := hD.below hb (Nat.le_refl _)
        have hlen := HT.out k
        have hq := anS_size p
        have HC : Hid ((Lib.byteCells (dkT (X.take k)).data.toList ++ Lib.strCells (anS p)) ++ [.int .u8 10] = Lib.byteCells (dkT (X.take (k + 1))).data.toList) := by show _ = _; rw [take_snoc hp]; exact dk_cells _ _
        obtain ⟨q, hqe⟩ : ∃ q, anS p = q := ⟨_, rfl⟩
        have HQ := Lib.hid hqe
        rw [hqe] at hq HC
        clear ha hp hX hqe
        go_wp2_with fail
        refine (i_answerTo (line := p) hps hDr).mono ?_
        rintro e w2 ⟨rfl, b2⟩
        have h2 := IsBuilder.belowK hI.out b2
        rw [HQ.out]
        have hb2 := hb.trans (b2.mono hz)
        have hz2 := hb2.size
        clear hDr b2 hcell hidx
        have HW := Lib.hid (Any.Builder_WriteString bld166 bldExtra w.heap.size w.heap.size _ q w2 h2 (by rw [Lib.byteCells_length]; omega) hz2)
        clear h2
        go_wp2_with fail
        refine HW.out.mono ?_
        rintro e w3 ⟨rfl, h3, b3⟩
        have hb3 := hb2.trans b3
        have hz3 := hb3.size
        have HW3 := Lib.hid (Any.Builder_WriteByte bld167 bldExtra w.heap.size w.heap.size _ 10 w3 (.inr h3) (by rw [List.length_append, Lib.byteCells_length, Lib.strCells_length]; omega) hz3)
        clear h3 b3
        go_wp2_with fail
        refine HW3.out.mono ?_
        rintro e w4 ⟨rfl, h4, b4⟩
        have hb4 := hb3.trans b4
        rw [HC.out] at h4
        have H4 := Lib.hid (Or.inr h4 : Lib.IsBuilder (bldRen.t 72) (bldRen.t 5) w.heap.size w.heap.size (Lib.byteCells (dkT (X.take (k + 1))).data.toList) w4)
        clear h4 b4
        go_wp2
        go_roundw
        case rel => exact ⟨k + 1, by omega, by go_num, H4, hb4⟩
        case measure => simp [intOf]; omega
      · have h := hI.out
        rw [List.take_of_length_le (by omega)] at h
        have HW := Lib.hid (Any.Builder_String_any bld169 bldExtra w.heap.size w.heap.size _ wr h hz)
        clear h
        go_wp2_with fail
        refine HW.out.mono ?_
        rintro e w2 ⟨rfl, b2⟩
        go_wp2
        go_ret
        rw [HR.out]
        exact ⟨rfl, hb.trans b2⟩

/- Walks: texts measured, copied, held against each other. -/
open Go.RowKit

theorem RSt.dr {w w' : World} {hi : Nat} {a : Option Addr} {X : List ByteArray} (h : RSt w hi a X) (hd : Dr w w') : RSt w' hi a X := h.below (Dr.below hd hi) (Nat.le_refl _)
theorem RSt.wide {w : World} {hi hi' : Nat} {a : Option Addr} {X : List ByteArray} (h : RSt w hi a X) (hh : hi ≤ hi') : RSt w hi' a X := fun k p e => by
  obtain ⟨b, o, ha, hl, hc⟩ := h k p e
  exact ⟨b, o, ha, by omega, hc⟩

set_option maxRecDepth 100000 in
set_option maxHeartbeats 1000000 in
theorem l_szStringS {X : List ByteArray} {a : Option Addr} {c hi : Nat} {w : World} (hX : RSt w hi a X) (hl : X.length ≤ 9223372036854775807) (hs : ∀ p ∈ X, p.size ≤ 9223372036854775807) :
    Calls Tryz.prog 5 #[.slice a X.length c, .int .i64 1048576] w (fun e w' => ∃ r : Int, e = .returned (.int .i64 r) ∧ Dr w w' ∧ (r = -1 ∨ (0 ≤ r ∧ r ≤ 1048576 ∧ X.length ≤ 1048576 ∧ Hid (∀ p ∈ X, p.size ≤ 1048576)))) := by
  by_cases h : 1048576 < X.length
  case pos =>
    go_enter Tryz.func5, Tryz.ntmps5
    go_wp2
    go_ret
    exact ⟨_, rfl, Dr.refl _, .inl rfl⟩
  have HG := Lib.hid hs; clear hs
  go_enter Tryz.func5, Tryz.ntmps5
  go_wp2
  go_loopw [1, 5] (fun v i wr => ∃ (k : Nat) (q : Int), k ≤ X.length ∧ i = .int .i64 k ∧ v = .int .i64 q ∧ 0 ≤ q ∧ q ≤ 1048576 ∧ Hid (∀ p ∈ X.take k, p.size ≤ 1048576) ∧ Dr w wr) (fun _ i _ => X.length - (intOf i).toNat)
  case atStart => exact ⟨0, _, Nat.zero_le _, rfl, rfl, by omega, by omega, by simp [Hid], Dr.refl _⟩
  case round =>
    obtain ⟨k, q, hk, rfl, rfl, hq0, hq1, hq, hd⟩ := hrel
    by_cases hlt : k < X.length
    · obtain ⟨p, hp⟩ := at_of_lt hlt
      obtain ⟨b, o, ha, hbl, hcell⟩ := (hX.dr hd) k p hp
      have hidx := idxSt ha hlt c
      have hps := HG.out p (List.mem_of_getElem? hp)
      by_cases hneg : q - p.size < 0
      · clear ha hX hp
        go_wp2
        go_ret
        exact ⟨_, rfl, hd, .inl rfl⟩
      · have HQ : Hid (∀ x ∈ X.take (k + 1), x.size ≤ 1048576) := by
          show ∀ x ∈ X.take (k + 1), _
          rw [take_snoc hp]
          intro x hx
          rcases List.mem_append.1 hx with h1 | h1
          · exact hq.out x h1
          · rw [List.mem_singleton.1 h1]; omega
        clear ha hX hp
        go_wp2
        go_roundw
        case rel => exact ⟨k + 1, _, by omega, by go_num, rfl, by omega, by omega, HQ, hd⟩
        case measure => simp [intOf]; omega
    · have h2 := hq.out
      rw [List.take_of_length_le (by omega)] at h2
      have HH := Lib.hid h2
      clear h2
      go_wp2
      go_ret
      exact ⟨q, rfl, hd, .inr ⟨hq0, hq1, by omega, HH⟩⟩

theorem rowS_step {w : World} {b t k : Nat} {X : List ByteArray} {x : ByteArray} (h : w.rowIs b t X.length (fun i => .string (if i < k then X.getD i ⟨#[]⟩ else ⟨#[]⟩))) (hx : X[k]? = some x) :
    (w.setCell ⟨b, k, none⟩ (.string x)).rowIs b t X.length (fun i => .string (if i < k + 1 then X.getD i ⟨#[]⟩ else ⟨#[]⟩)) := by
  refine (h.set k (.string x)).congr fun i hi => ?_
  by_cases e : i = k
  · subst e; simp [List.getD, hx]
  · simp only [e, if_false]
    have : i < k + 1 ↔ i < k := by omega
    simp [this]
theorem rowS_start (w : World) (n t : Nat) (X : List ByteArray) (hn : n = X.length) : (w.alloc (.cells (madeCells #[.string ⟨#[]⟩] n) t)).rowIs w.heap.size t X.length (fun i => .string (if i < 0 then X.getD i ⟨#[]⟩ else ⟨#[]⟩)) := by
  subst hn
  exact (World.rowIs_made w (.string ⟨#[]⟩) X.length t).congr fun i _ => by simp
theorem rowS_end {w : World} {b t k : Nat} {X : List ByteArray} (h : w.rowIs b t X.length (fun i => .string (if i < k then X.getD i ⟨#[]⟩ else ⟨#[]⟩))) (hk : X.length ≤ k) : RSt w (b + 1) (some ⟨b, 0, none⟩) X := fun j p hp => by
  have hj := lt_of_at hp
  refine ⟨b, 0, rfl, Nat.lt_succ_self _, ?_⟩
  rw [Nat.zero_add, h.cell hj, if_pos (by omega)]
  simp [List.getD, hp]

set_option maxRecDepth 100000 in
set_option maxHeartbeats 1000000 in
theorem l_toStringS {X : List ByteArray} {a : Option Addr} {c hi : Nat} {w : World} (hX : RSt w hi a X) (hB : hi ≤ w.heap.size) (hl : X.length ≤ 1048576) :
    Calls Tryz.prog 7 #[.slice a X.length c] w (fun e w' => e = .returned (.slice (some ⟨w.heap.size, 0, none⟩) X.length X.length) ∧ RSt w' (w.heap.size + 1) (some ⟨w.heap.size, 0, none⟩) X ∧ w.heap.size < w'.heap.size ∧ Below w.heap.size w w') := by
  have hmk := run_make_row' (P := Tryz.prog) 22 9 (.string ⟨#[]⟩) 16 undSt infoSt rfl .i64 .i64 X.length (by omega) (by omega)
  have hS := rowS_start w X.length 9 X rfl
  go_enter Tryz.func7, Tryz.ntmps7
  go_wp2
  go_loopw [4] (fun i wr => ∃ k : Nat, k ≤ X.length ∧ i = .int .i64 k ∧ wr.rowIs w.heap.size 9 X.length (fun i => .string (if i < k then X.getD i ⟨#[]⟩ else ⟨#[]⟩)) ∧ Below w.heap.size w wr) (fun i _ => X.length - (intOf i).toNat)
  case atStart => exact ⟨0, Nat.zero_le _, rfl, hS, (Below.refl _ _).alloc (Nat.le_refl _) _⟩
  case round =>
    obtain ⟨k, hk, rfl, hR, hBl⟩ := hrel
    by_cases hlt : k < X.length
    · obtain ⟨p, hp⟩ := at_of_lt hlt
      obtain ⟨b, o, ha, hbl, hcell⟩ := hX.below hBl hB k p hp
      have hidx := idxSt ha hlt c
      have hidx2 := idxSt (a := some ⟨w.heap.size, 0, none⟩) rfl hlt X.length
      simp only [Nat.zero_add] at hidx2
      have hfr := hR.frozen k
      have hcl := hR.cell hlt
      have hR2 := rowS_step hR hp
      have hBl2 := hBl.setCell (p := ⟨w.heap.size, k, none⟩) (Nat.le_refl _) (.string p)
      clear ha hX hR hBl hS hp
      go_wp2
      go_roundw
      case rel => exact ⟨k + 1, by omega, by go_num, hR2, hBl2⟩
      case measure => simp [intOf]; omega
    · have hR2 := rowS_end hR (by omega)
      have hlt2 := hR.lt
      clear hR
      go_wp2
      go_ret
      exact ⟨rfl, hR2, hlt2, hBl⟩

theorem strNeqY (s : ByteArray) : (s.toList != s.toList) = false := bne_self_eq_false _

set_option maxRecDepth 100000 in
set_option maxHeartbeats 1000000 in
theorem l_eqStringS {X : List ByteArray} {a a' : Option Addr} {c c' hi hi' : Nat} {w : World} (hX : RSt w hi a X) (hY : RSt w hi' a' X) (hl : X.length ≤ 1048576) :
    Calls Tryz.prog 9 #[.slice a X.length c, .slice a' X.length c'] w (RO w (.bool true)) := by
  have hne : ((X.length : Int) != (X.length : Int)) = false := bne_self_eq_false _
  go_enter Tryz.func9, Tryz.ntmps9
  go_wp2
  go_loopw [5] (fun i wr => ∃ k : Nat, k ≤ X.length ∧ i = .int .i64 k ∧ Dr w wr) (fun i _ => X.length - (intOf i).toNat)
  case atStart => exact ⟨0, Nat.zero_le _, rfl, Dr.refl _⟩
  case round =>
    obtain ⟨k, hk, rfl, hd⟩ := hrel
    by_cases hlt : k < X.length
    · obtain ⟨p, hp⟩ := at_of_lt hlt
      obtain ⟨b, o, ha, hbl, hcell⟩ := (hX.dr hd) k p hp
      obtain ⟨b', o', ha', hbl', hcell'⟩ := (hY.dr hd) k p hp
      have hidx := idxSt ha hlt c
      have hidx' := idxSt ha' hlt c'
      have hpp := strNeqY p
      clear ha ha' hX hY hp
      go_wp2_with fail
      go_quiet (fail)
      go_wp2
      go_roundw
      case rel => exact ⟨k + 1, by omega, by go_num, by first | exact hd.drewN _ | exact hd⟩
      case measure => simp [intOf]; omega
    · go_wp2
      go_ret
      exact hd.boolD rfl

end Go.Proofs.YtpioldgpfpmjiaaGreatDoor
