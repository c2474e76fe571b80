/- The walk of FnIsBalanced: it returns true and writes nothing that was there. -/
import Derived.Test.YtehoagbpgahopaaYb
import Derived.Test.YtehoagbpgahopaaNq
import Derived.Test.YtehoagbpgahopaaNu
import Derived.Test.YtehoagbpgahopaaRe
import Derived.Test.YtehoagbpgahopaaRl
import Derived.Test.YtehoagbpgahopaaZr
import Derived.Test.YtehoagbpgahopaaWs
namespace Go.Proofs.Ytehoagbpgahopaa
open Go.RowKit

/-- levels 1 to 3, n of them at most -/
def MdP (n : Nat) (l : List Int) : Prop := l.length ≤ n ∧ ∀ x ∈ l, 1 ≤ x ∧ x ≤ 3
theorem MdP.ok {n : Nat} {l : List Int} (h : MdP n l) (h0 : 1 ≤ l.length) (h5 : n ≤ 5) : okM l = true := by
  refine okM_mk h0 (Nat.le_trans h.1 h5) ?_
  rw [List.all_eq_true]
  exact fun x hx => inR_true.2 (h.2 x hx)

set_option maxRecDepth 100000 in
set_option maxHeartbeats 2000000 in
theorem s_smallModelG {b K : Nat} {w : World} (hr : Rdr w b K) (hK : K ≤ 1000000) :
    Calls Try.prog 160 #[.pointer (some ⟨b, 0, none⟩)] w (Dl w b (K + 6) w.heap.size (fun l => okM l = true)) := by
  have hlt := hr.lt
  obtain ⟨W1, hW1⟩ : ∃ W, w.alloc (.cells #[] 3) = W := ⟨_, rfl⟩
  have hb1 : Below w.heap.size w W1 := by rw [← hW1]; exact (Below.refl w.heap.size w).alloc (Nat.le_refl _) _
  have hs1 : w.heap.size + 1 ≤ W1.heap.size := by rw [← hW1]; simp
  have ho1 : OwnL W1 w.heap.size (.slice (some ⟨w.heap.size, 0, none⟩) 0 0) [] := by rw [← hW1]; exact OwnL.made w w.heap.size (Nat.le_refl _)
  have hb2 := (Below.refl W1.heap.size W1).alloc (Nat.le_refl _) (.cells #[.int .i64 2, .int .i64 3, .int .i64 2, .int .i64 1] 3)
  go_enter Try.func160, Try.ntmps160
  go_wp2_with fail
  refine (s_one ((hr.below hb1 hlt).below hb2 (by omega)) (by omega) (litW W1 _ [2, 3, 2, 1] rfl) (by simp) (by simp) (.inr (by omega)) (by simp)).mono ?_
  rintro e w2 ⟨n, rfl, hn, hr2, hu2⟩
  have hn5 : 1 ≤ n ∧ n ≤ 3 := by simp at hn; omega
  have ho2 := (ho1.same fun g _ h2 => hb2.block g h2).upd hu2 hlt
  have hU2 : UpB b w.heap.size w w2 := (((UpB.refl b w.heap.size w).below hb1 (Nat.le_refl _)).below hb2 (by omega)).upd hu2
  have hs2 := hU2.size
  clear hr hb1 hb2 ho1 hu2 hn hs1
  go_wp2
  go_loopw [3] (fun v wr => ∃ (a : Option Addr) (c : Nat) (l : List Int), v = .slice a l.length c ∧ OwnL wr w.heap.size (.slice a l.length c) l ∧ MdP n.toNat l ∧ Rdr wr b (K + 1 + l.length) ∧ UpB b w.heap.size w wr) (fun v _ => n.toNat - lenV v)
  case atStart => exact ⟨_, _, [], rfl, ho2, ⟨Nat.zero_le _, by simp⟩, hr2, hU2⟩
  case round =>
    clear ho2 hr2 hU2
    obtain ⟨a, c, l, rfl, ho, hL, hr, hU⟩ := hrel
    have hl1 := hL.1
    have hlw := hr.lt
    have hszr := hU.size
    have HL := Lib.hid hL
    clear hL hW1
    by_cases hlt2 : (l.length : Int) < n
    · have hb3 := (Below.refl wr.heap.size wr).alloc (Nat.le_refl _) (.cells #[.int .i64 2, .int .i64 2, .int .i64 3, .int .i64 1] 3)
      go_wp2_with fail
      refine (s_one (hr.below hb3 hlw) (by omega) (litW wr _ [2, 2, 3, 1] rfl) (by simp) (by simp) (.inr hlw) (by simp)).mono ?_
      rintro e w3 ⟨x, rfl, hx, hr3, hu3⟩
      have hx3 : 1 ≤ x ∧ x ≤ 3 := by simp at hx; omega
      have ho3 := (ho.same fun g _ h2 => hb3.block g h2).upd hu3 hlt
      have hU3 := (hU.below hb3 (by omega)).upd hu3
      have hs3 := hU3.size
      clear ho hr hU hu3 hx hb3
      go_wp2_with (first
        | (at_builtin; refine wpList_app1 rfl _ _ rfl w.heap.size _ l rfl ho3 x rfl (by omega) hs3 ?_; intro v4 w4 ho4 hb4)
        | go_in)
      obtain ⟨a4, c4, rfl, _⟩ := ho4.slice
      have hr4 := hr3.below hb4 hlt
      have hU4 := hU3.below hb4 (Nat.le_refl _)
      have HL4 : Hid (MdP n.toNat (l ++ [x])) := ⟨by simp; omega, fun y hy => by rcases List.mem_append.1 hy with hy | hy; exact HL.out.2 y hy; rw [List.mem_singleton] at hy; rw [hy]; exact hx3⟩
      clear ho3 hr3 hU3 hb4
      go_roundw
      case rel => exact ⟨a4, c4, l ++ [x], rfl, ho4, HL4.out, hr4.mono (by simp; omega), hU4⟩
      case measure => simp [lenV]; omega
    · go_wp2
      go_ret
      exact ⟨a, c, l, rfl, ho, MdP.ok HL.out (by omega) (by omega), hr.mono (by omega), hU⟩

/-- a model, a suite of any length and a number that a law has drawn -/
def DrB (w : World) (e : Ending) (w' : World) : Prop := ∃ (a1 : Option Addr) (c1 : Nat) (m : List Int) (a2 : Option Addr) (c2 : Nat) (s : List (List Int)) (t : Int), e = .returned (.tuple #[.slice a1 m.length c1, .slice a2 s.length c2, .int .i64 t]) ∧ (RI w' w.heap.size w'.heap.size a1 m ∧ m.length ≤ 10 ∧ RIIc w' w.heap.size w'.heap.size a2 c2 s ∧ s.length ≤ 1048576 ∧ (∀ r ∈ s, r.length ≤ 12) ∧ -4 ≤ t ∧ t ≤ 6) ∧ Below w.heap.size w w'
theorem rep_snoc' (k : Nat) (x : Int) : List.replicate k x ++ [x] = List.replicate (k + 1) x := by
  rw [← List.replicate_succ']

set_option maxRecDepth 100000 in
set_option maxHeartbeats 4000000 in
theorem s_DrawIsBalanced {n : Nat} {a : Option Addr} {c : Nat} {w : World} (hm : RB w w.heap.size a n) (hc : n ≤ c) (hl : n ≤ 1048576) :
    Calls Try.prog 50 #[.slice a n c] w (DrB w) := by
  have HM := Lib.hid hm
  go_enter Try.func50, Try.ntmps50
  go_wp2_with fail
  refine (s_newReader hm hc hl).mono ?_
  rintro e w1 ⟨rfl, hr1, hb1⟩
  have hlt1 := hr1.lt
  have hs1 := hb1.size
  go_wp2_with fail
  refine (s_pick hr1 (by omega) (by omega) (by omega)).mono ?_
  rintro e w2 ⟨u, rfl, hu, hr2, hu2⟩
  have hU2 : UpB w.heap.size w1.heap.size w1 w2 := (UpB.refl _ _ w1).upd hu2
  have hs2 := hU2.size
  have hlt2 := hr2.lt
  clear hr1 hu2 hm
  by_cases e0 : u = 0
  · subst e0
    have h00 : ((0 : Int) == 0) = true := rfl
    go_wp2_with fail
    refine (s_pick hr2 (by omega) (by omega) (by omega)).mono ?_
    rintro e w3 ⟨q0, rfl, hq0, hr3, hu3⟩
    have hq1 : 0 ≤ q0 ∧ q0 ≤ 1 := ⟨hq0.1, by have := hq0.2 (by omega); omega⟩
    have hU3 := hU2.upd hu3
    have hs3 := hU3.size
    have hlt3 := hr3.lt
    obtain ⟨q, hq⟩ : ∃ q : Int, 2 + q0 = q := ⟨_, rfl⟩
    have hw1 : IntKind.i64.wrap (2 + q0) = q := by rw [IntWalk.i64_in _ (by omega)]; omega
    have hw2 : IntKind.i64.wrap (q + 1) = q + 1 := by rw [IntWalk.i64_in _ (by omega)]
    have hq23 : 2 ≤ q ∧ q ≤ 3 := by omega
    clear hr2 hu3 hU2 hq0 hu
    go_wp2_with fail
    refine (s_pick (n := q + 1) hr3 (by omega) (by omega) (by omega)).mono ?_
    rintro e w4 ⟨k0, rfl, hk0, hr4, hu4⟩
    have hk1 : 0 ≤ k0 ∧ k0 ≤ 3 := ⟨hk0.1, by have := hk0.2 (by omega); omega⟩
    have hU4 := hU3.upd hu4
    have hs4 := hU4.size
    have hlt4 := hr4.lt
    obtain ⟨k, hk⟩ : ∃ k : Nat, 1 + k0 = (k : Int) := ⟨(1 + k0).toNat, by omega⟩
    have hw3 : IntKind.i64.wrap (1 + k0) = (k : Int) := by rw [IntWalk.i64_in _ (by omega)]; omega
    have hk14 : k ≤ 4 := by omega
    clear hr3 hu4 hU3 hk0 hk hq
    go_wp2_with fail
    refine (s_SquareSuite (by omega) (by omega) (by omega) (by omega)).mono ?_
    rintro e w5 ⟨Aa, Ac, rfl, A, b5⟩
    have hs5 := b5.size
    obtain ⟨S, hS⟩ : ∃ S, sqL q k = S := ⟨_, rfl⟩
    obtain ⟨B, hB⟩ : ∃ B, sqB q k = B := ⟨_, rfl⟩
    have hSl := @sqL_len q k
    have hSr := @sqL_row q k
    rw [hS] at hSl hSr A
    rw [hS, hB]
    have HSR : Hid (∀ r ∈ S, r.length ≤ 12) := fun r h => by have := hSr r h; omega
    have hU5 : UpB w.heap.size w1.heap.size w1 w5 := hU4.below b5 (by omega)
    have hr5 := hr4.below b5 hlt4
    have hst := OwnL.made w5 w5.heap.size (Nat.le_refl _)
    have hbA := (Below.refl w5.heap.size w5).alloc (Nat.le_refl _) (.cells #[] 3)
    clear hr4 hU4 b5 hS hB hSr
    go_wp2
    go_loopw [10] (fun v wr => ∃ (j : Nat) (a : Option Addr) (c : Nat) (l : List Int), j ≤ k ∧ v = .slice a l.length c ∧ Hid (l.length = j) ∧ OwnL wr w5.heap.size (.slice a l.length c) l ∧ Below w5.heap.size w5 wr) (fun v _ => k - (match v with | .slice _ n _ => n | _ => 0))
    case atStart => exact ⟨0, _, _, [], Nat.zero_le _, rfl, rfl, hst, hbA⟩
    case round =>
      clear hst hbA
      obtain ⟨j, a', c', l, hj, rfl, hlj, ho, hbw⟩ := hrel
      have hsz := hbw.size
      by_cases hlt : j < k
      · have hd : decide ((l.length : Int) < (k : Int)) = true := decide_eq_true (by have := hlj.out; omega)
        have hd2 : decide (l.length < k) = true := decide_eq_true (by have := hlj.out; omega)
        go_wp2_with (first
          | (at_builtin; refine wpList_app1 rfl _ _ rfl w5.heap.size _ l rfl ho q rfl (by have := hlj.out; omega) hsz ?_; intro v6 w6 ho6 hb6)
          | go_in)
        obtain ⟨a6, c6, rfl, _⟩ := ho6.slice
        go_roundw
        case rel => exact ⟨j + 1, a6, c6, l ++ [q], by omega, rfl, by show _ = _; have := hlj.out; simp; omega, ho6, hbw.trans hb6⟩
        case measure => have := hlj.out; simp; omega
      · have hd : decide ((l.length : Int) < (k : Int)) = false := decide_eq_false (by have := hlj.out; omega)
        have hd2 : decide (l.length < k) = false := decide_eq_false (by have := hlj.out; omega)
        obtain ⟨a7, c7, e7, ho7⟩ := ho.slice
        obtain ⟨rfl, rfl⟩ : a' = a7 ∧ c' = c7 := by simpa using e7
        have hri := ho7.ri
        have HLL : Hid (l.length ≤ 10) := by show _ ≤ _; have := hlj.out; omega
        have hA := A.below hbw (Nat.le_refl _)
        have hr6 := hr5.below hbw (by omega)
        have hU6 : UpB w.heap.size w1.heap.size w1 wr := hU5.below hbw (by omega)
        have hlt6 := hr6.lt
        clear ho ho7 e7 A hr5 hU5
        go_wp2_with fail
        refine (s_aStrength hr6 (by omega)).mono ?_
        rintro e w7 ⟨t, rfl, ht, hr7, hU7⟩
        have hs7 := hU7.size
        have hri7 := hri.upB hU7 (Nat.le_refl _) (Nat.le_refl _) (by omega)
        have hA7 : RIIc w7 w4.heap.size w5.heap.size Aa Ac S := ⟨hA.rii.same fun x h1 h2 => hU7.block x (by omega) (by omega) (by omega), hA.cap⟩
        have hUU := hU6.trans (hU7.less (by omega))
        go_wp2
        go_ret3
        exact ⟨_, _, l, _, _, S, t, rfl, ⟨hri7.wide (by omega) hs7, HLL.out, hA7.wide (by omega) (by omega), by omega, HSR.out, ht.1, ht.2⟩, hb1.trans (hUU.toBelow (by omega) (by omega))⟩
  have hn0 : (u == 0) = false := by rw [beq_eq_false_iff_ne]; exact e0
  by_cases e1 : u = 1
  · subst e1
    have h11 : ((1 : Int) == 1) = true := rfl
    go_wp2_with fail
    refine (s_smallModelG hr2 (by omega)).mono ?_
    rintro e w3 ⟨a3, c3, m, rfl, ho3, hok, hr3, hU3⟩
    have hs3 := hU3.size
    have hlt3 := hr3.lt
    obtain ⟨a4, c4, e4, ho4⟩ := ho3.slice
    obtain ⟨rfl, rfl⟩ : a3 = a4 ∧ c3 = c4 := by simpa using e4
    have hri := ho4.ri
    have hm5 := okM_len hok
    have hbA := (Below.refl w3.heap.size w3).alloc (Nat.le_refl _) (.cells #[] 3)
    have HLN : Hid ((extS m []).length ≤ 1024) := by show _ ≤ _; unfold extS; exact patS_len hok _
    have HRW : Hid (∀ r ∈ extS m [], r.length ≤ 12) := by show ∀ r ∈ _, _; intro r hr; unfold extS at hr; have := patS_row r hr; omega
    have hU33 := hU2.trans (hU3.less (by omega))
    clear hr2 hU2 hU3 ho3 ho4 e4 hu
    go_wp2_with fail
    refine (s_extend hok m.length [] a3 ⟨w3.heap.size, 0, none⟩ c3 0 w2.heap.size w3.heap.size 0 0 _ (by simp) (hri.below hbA (Nat.le_refl _)) (by simp) (RI.nil _ _ _ _) (by simp)).mono ?_
    rintro e w5 ⟨ad, cc, rfl, h5, hb5⟩
    have hb35 := hbA.trans (hb5.mono (by simp))
    have hs5 := hb5.size
    simp only [World.size_alloc] at hs5
    have hr5 := hr3.below hb35 hlt3
    have hri5 := hri.below hb35 (Nat.le_refl _)
    have hU5 := hU33.below hb35 (by omega)
    obtain ⟨S, hS⟩ : ∃ S, extS m [] = S := ⟨_, rfl⟩
    rw [hS] at h5 HLN HRW
    rw [hS]
    clear hbA hb5 hb35 hr3 hri hU33 hS
    go_wp2_with fail
    refine (s_aStrength hr5 (by omega)).mono ?_
    rintro e w7 ⟨t, rfl, ht, hr7, hU7⟩
    have hs7 := hU7.size
    have hri7 := hri5.upB hU7 (by omega) (by omega) (by omega)
    have hA7 : RIIc w7 (w3.heap.size + 1) w5.heap.size (some ad) cc S := ⟨RII.same (by simpa using h5.rii) fun x h1 h2 => hU7.block x (by omega) (by omega) (by omega), h5.cap⟩
    have hUU := hU5.trans (hU7.less (by omega))
    go_wp2
    go_ret3
    exact ⟨_, _, m, _, _, S, t, rfl, ⟨hri7.wide (by omega) (by omega), by omega, hA7.wide (by omega) (by omega), by have := HLN.out; omega, HRW.out, ht.1, ht.2⟩, hb1.trans (hUU.toBelow (by omega) (by omega))⟩
  have hn1 : (u == 1) = false := by rw [beq_eq_false_iff_ne]; exact e1
  have hb2 := hb1.trans (hU2.toBelow (by omega) (by omega))
  have hmB : RB w2 w2.heap.size a n := fun k hk => by
    obtain ⟨b, o, x, h1, h2, h3, h4⟩ := HM.out.same (fun k hk => hb2.block k hk) k hk
    exact ⟨b, o, x, h1, by omega, h3, h4⟩
  clear hr2 hU2 hu
  go_wp2_with fail
  refine (s_DrawMissingOf hmB hc hl).mono ?_
  rintro e w3 ⟨a1, c1, m, a2, c2, s, t, rfl, ⟨hG, hS, ht0, ht1⟩, hb3⟩
  go_wp2
  go_ret3
  exact ⟨_, _, m, _, _, s, t, rfl, ⟨hG.ri.wide (by omega) (Nat.le_refl _), by have := hG.lp.1; omega, hS.ric.wide (by omega) (Nat.le_refl _), by have := hS.sq.1; omega, fun r h => (hS.sq.2 r h).1, ht0, ht1⟩, hb2.trans (hb3.mono (by omega))⟩

theorem okC_noB {m : List Int} {s : List (List Int)} {t : Int} (h : (okM m && okS m s) = false ∨ t < 0 ∨ (m.length : Int) < t) : okC m s t = false := by
  cases hc : okC m s t
  · rfl
  · have hp := okC_parts hc
    rcases h with h | h | h
    · unfold okC at hc; simp only [Bool.and_eq_true] at hc; rw [hp.1, hc.1.2] at h; cases h
    · omega
    · omega
theorem ib_down {m : List Int} {s : List (List Int)} {t : Int} (h : ibB m s t = true) (ht : 0 < t) : ibB m s (t - 1) = true := by
  have hc : okC m s t = true := by
    cases hc : okC m s t
    · rw [ib_no hc] at h; cases h
    · rfl
  have hp := okC_parts hc
  have hs : okS m s = true := by unfold okC at hc; simp only [Bool.and_eq_true] at hc; exact hc.1.2
  rw [ib_yes hc] at h
  have hc2 : okC m s (t - 1) = true := by unfold okC; rw [hp.1, hs, inR_true.2 (by omega)]; rfl
  rw [ib_yes hc2]
  exact ba_down hp.1 hs h ht hp.2.1.2
theorem ib_cov {m : List Int} {s : List (List Int)} {t : Int} (h : ibB m s t = true) (h0 : s ≠ []) : icB m s t = true := by
  have hc : okC m s t = true := by
    cases hc : okC m s t
    · rw [ib_no hc] at h; cases h
    · rfl
  have hp := okC_parts hc
  have hs : okS m s = true := by unfold okC at hc; simp only [Bool.and_eq_true] at hc; exact hc.1.2
  rw [ib_yes hc] at h
  rw [ic_yes hc, ba_cov hp.1 hs h h0]; rfl

set_option maxRecDepth 100000 in
set_option maxHeartbeats 2000000 in
theorem law_FnIsBalanced {m0 : Nat} {a0 : Option Addr} {c0 : Nat} {w : World} (f0 : RB w w.heap.size a0 m0) (l0 : m0 ≤ c0) :
    Calls Try.prog 8 #[.slice a0 m0 c0] w (Tru w) := by
  by_cases hb : m0 ≤ 1048576
  case neg =>
    go_enter Try.func8, Try.ntmps8
    go_wp2
    go_ret
    exact ⟨rfl, Below.refl _ _⟩
  go_enter Try.func8, Try.ntmps8
  go_wp2_with fail
  refine (s_DrawIsBalanced f0 l0 hb).mono ?_
  rintro e w1 ⟨a1, c1, m, a2, c2, s, t, rfl, ⟨hm, hl10, hs, hsl, hsr, ht0, ht1⟩, B1⟩
  have z1 := B1.size
  have scap := hs.cap
  have HSG : Hid (∀ r ∈ s, r.length ≤ 9223372036854775807) := fun r h => by have := hsr r h; omega
  clear hsr
  clear f0
  cases hok : (okM m && okS m s)
  · skip
    have HIC : Hid (ibB m s t = false) := ib_no (okC_noB (.inl hok))
    have HV := Lib.hid hok; clear hok
    go_wp2_with fail
    refine (i_IsBalanced hm (by omega) hs.rii (by omega) HSG.out (by omega) (by omega) (by omega) (by omega)).mono ?_
    rintro e w2 ⟨rfl, b2⟩
    have z2 := b2.size
    have hm := hm.below b2 (by omega)
    have hs := hs.below b2 (by omega)
    have B2 := B1.trans (b2.mono (by omega))
    clear b2 B1
    rw [HIC.out]
    go_wp2_with fail
    refine (s_IsBalanced hm (by omega) hs.rii (by omega) HSG.out (by omega) (by omega) (by omega) (by omega)).mono ?_
    rintro e w3 ⟨rfl, b3⟩
    have z3 := b3.size
    have hm := hm.below b3 (by omega)
    have hs := hs.below b3 (by omega)
    have B3 := B2.trans (b3.mono (by omega))
    clear b3 B2
    rw [HIC.out]
    go_wp2_with fail
    refine (i_ValidSuite hm (by omega) hs.rii (by omega) HSG.out).mono ?_
    rintro e w4 ⟨rfl, d4⟩
    have b4 := Dr.below d4 w3.heap.size
    have z4 := Dr.le d4
    clear d4
    have hm := hm.below b4 (by omega)
    have hs := hs.below b4 (by omega)
    have B4 := B3.trans (b4.mono (by omega))
    clear b4 B3
    rw [HV.out]
    go_wp2_with fail
    refine (s_IsBalanced hm (by omega) hs.rii (by omega) HSG.out (by omega) (by omega) (by omega) (by omega)).mono ?_
    rintro e w5 ⟨rfl, b5⟩
    have z5 := b5.size
    have hm := hm.below b5 (by omega)
    have hs := hs.below b5 (by omega)
    have B5 := B4.trans (b5.mono (by omega))
    clear b5 B4
    rw [HIC.out]
    go_wp2
    go_ret
    exact ⟨rfl, B5⟩
  have HV := Lib.hid hok; clear hok
  by_cases hlo : t < 0
  · skip
    have HIC : Hid (ibB m s t = false) := ib_no (okC_noB (.inr (.inl hlo)))
    go_wp2_with fail
    refine (i_IsBalanced hm (by omega) hs.rii (by omega) HSG.out (by omega) (by omega) (by omega) (by omega)).mono ?_
    rintro e w2 ⟨rfl, b2⟩
    have z2 := b2.size
    have hm := hm.below b2 (by omega)
    have hs := hs.below b2 (by omega)
    have B2 := B1.trans (b2.mono (by omega))
    clear b2 B1
    rw [HIC.out]
    go_wp2_with fail
    refine (s_IsBalanced hm (by omega) hs.rii (by omega) HSG.out (by omega) (by omega) (by omega) (by omega)).mono ?_
    rintro e w3 ⟨rfl, b3⟩
    have z3 := b3.size
    have hm := hm.below b3 (by omega)
    have hs := hs.below b3 (by omega)
    have B3 := B2.trans (b3.mono (by omega))
    clear b3 B2
    rw [HIC.out]
    go_wp2_with fail
    refine (i_ValidSuite hm (by omega) hs.rii (by omega) HSG.out).mono ?_
    rintro e w4 ⟨rfl, d4⟩
    have b4 := Dr.below d4 w3.heap.size
    have z4 := Dr.le d4
    clear d4
    have hm := hm.below b4 (by omega)
    have hs := hs.below b4 (by omega)
    have B4 := B3.trans (b4.mono (by omega))
    clear b4 B3
    rw [HV.out]
    go_wp2_with fail
    refine (s_IsBalanced hm (by omega) hs.rii (by omega) HSG.out (by omega) (by omega) (by omega) (by omega)).mono ?_
    rintro e w5 ⟨rfl, b5⟩
    have z5 := b5.size
    have hm := hm.below b5 (by omega)
    have hs := hs.below b5 (by omega)
    have B5 := B4.trans (b5.mono (by omega))
    clear b5 B4
    rw [HIC.out]
    go_wp2
    go_ret
    exact ⟨rfl, B5⟩
  have hlo1 := hlo; clear hlo
  by_cases hlo : (m.length : Int) < t
  · skip
    have HIC : Hid (ibB m s t = false) := ib_no (okC_noB (.inr (.inr hlo)))
    go_wp2_with fail
    refine (i_IsBalanced hm (by omega) hs.rii (by omega) HSG.out (by omega) (by omega) (by omega) (by omega)).mono ?_
    rintro e w2 ⟨rfl, b2⟩
    have z2 := b2.size
    have hm := hm.below b2 (by omega)
    have hs := hs.below b2 (by omega)
    have B2 := B1.trans (b2.mono (by omega))
    clear b2 B1
    rw [HIC.out]
    go_wp2_with fail
    refine (s_IsBalanced hm (by omega) hs.rii (by omega) HSG.out (by omega) (by omega) (by omega) (by omega)).mono ?_
    rintro e w3 ⟨rfl, b3⟩
    have z3 := b3.size
    have hm := hm.below b3 (by omega)
    have hs := hs.below b3 (by omega)
    have B3 := B2.trans (b3.mono (by omega))
    clear b3 B2
    rw [HIC.out]
    go_wp2_with fail
    refine (i_ValidSuite hm (by omega) hs.rii (by omega) HSG.out).mono ?_
    rintro e w4 ⟨rfl, d4⟩
    have b4 := Dr.below d4 w3.heap.size
    have z4 := Dr.le d4
    clear d4
    have hm := hm.below b4 (by omega)
    have hs := hs.below b4 (by omega)
    have B4 := B3.trans (b4.mono (by omega))
    clear b4 B3
    rw [HV.out]
    go_wp2_with fail
    refine (s_IsBalanced hm (by omega) hs.rii (by omega) HSG.out (by omega) (by omega) (by omega) (by omega)).mono ?_
    rintro e w5 ⟨rfl, b5⟩
    have z5 := b5.size
    have hm := hm.below b5 (by omega)
    have hs := hs.below b5 (by omega)
    have B5 := B4.trans (b5.mono (by omega))
    clear b5 B4
    rw [HIC.out]
    go_wp2
    go_ret
    exact ⟨rfl, B5⟩
  have hlo2 := hlo; clear hlo
  cases hb : ibB m s t
  · skip
    have HIC := Lib.hid hb; clear hb
    go_wp2_with fail
    refine (i_IsBalanced hm (by omega) hs.rii (by omega) HSG.out (by omega) (by omega) (by omega) (by omega)).mono ?_
    rintro e w2 ⟨rfl, b2⟩
    have z2 := b2.size
    have hm := hm.below b2 (by omega)
    have hs := hs.below b2 (by omega)
    have B2 := B1.trans (b2.mono (by omega))
    clear b2 B1
    rw [HIC.out]
    go_wp2_with fail
    refine (s_IsBalanced hm (by omega) hs.rii (by omega) HSG.out (by omega) (by omega) (by omega) (by omega)).mono ?_
    rintro e w3 ⟨rfl, b3⟩
    have z3 := b3.size
    have hm := hm.below b3 (by omega)
    have hs := hs.below b3 (by omega)
    have B3 := B2.trans (b3.mono (by omega))
    clear b3 B2
    rw [HIC.out]
    go_wp2_with fail
    refine (i_ValidSuite hm (by omega) hs.rii (by omega) HSG.out).mono ?_
    rintro e w4 ⟨rfl, d4⟩
    have b4 := Dr.below d4 w3.heap.size
    have z4 := Dr.le d4
    clear d4
    have hm := hm.below b4 (by omega)
    have hs := hs.below b4 (by omega)
    have B4 := B3.trans (b4.mono (by omega))
    clear b4 B3
    rw [HV.out]
    go_wp2
    go_ret
    exact ⟨rfl, B4⟩
  have HIC := Lib.hid hb
  have HCV : Hid (s ≠ [] → icB m s t = true) := fun h => ib_cov hb h
  have HDN : Hid (0 < t → ibB m s (t - 1) = true) := fun h => ib_down hb h
  clear hb
  go_wp2_with fail
  refine (i_IsBalanced hm (by omega) hs.rii (by omega) HSG.out (by omega) (by omega) (by omega) (by omega)).mono ?_
  rintro e w2 ⟨rfl, b2⟩
  have z2 := b2.size
  have hm := hm.below b2 (by omega)
  have hs := hs.below b2 (by omega)
  have B2 := B1.trans (b2.mono (by omega))
  clear b2 B1
  rw [HIC.out]
  go_wp2_with fail
  refine (s_IsBalanced hm (by omega) hs.rii (by omega) HSG.out (by omega) (by omega) (by omega) (by omega)).mono ?_
  rintro e w3 ⟨rfl, b3⟩
  have z3 := b3.size
  have hm := hm.below b3 (by omega)
  have hs := hs.below b3 (by omega)
  have B3 := B2.trans (b3.mono (by omega))
  clear b3 B2
  rw [HIC.out]
  go_wp2_with fail
  refine (i_ValidSuite hm (by omega) hs.rii (by omega) HSG.out).mono ?_
  rintro e w4 ⟨rfl, d4⟩
  have b4 := Dr.below d4 w3.heap.size
  have z4 := Dr.le d4
  clear d4
  have hm := hm.below b4 (by omega)
  have hs := hs.below b4 (by omega)
  have B4 := B3.trans (b4.mono (by omega))
  clear b4 B3
  rw [HV.out]
  by_cases ht : t = 0
  · skip
    have hteq : (t == 0) = true := by simpa using ht
    clear ht
    by_cases h0 : s.length = 0
    · skip
      have hz : ((s.length : Int) == 0) = true := by rw [h0]; rfl
      go_wp2
      go_ret
      exact ⟨rfl, B4⟩
    have hz : ((s.length : Int) == 0) = false := by rw [beq_eq_false_iff_ne]; omega
    have HC2 := Lib.hid (HCV.out (fun e => h0 (by rw [e]; rfl)))
    clear h0
    go_wp2_with fail
    refine (i_IsCovering hm (by omega) hs.rii (by omega) HSG.out (by omega) (by omega) (by omega) (by omega)).mono ?_
    rintro e w5 ⟨rfl, b5⟩
    have z5 := b5.size
    have hm := hm.below b5 (by omega)
    have hs := hs.below b5 (by omega)
    have B5 := B4.trans (b5.mono (by omega))
    clear b5 B4
    rw [HC2.out]
    go_wp2
    go_ret
    exact ⟨rfl, B5⟩
  have hteq : (t == 0) = false := by simpa using ht
  have HD2 := Lib.hid (HDN.out (by omega))
  have hw1 : IntKind.i64.wrap (t - 1) = t - 1 := by rw [IntWalk.i64_in _ (by omega)]
  clear ht
  go_wp2_with fail
  refine (i_IsBalanced hm (by omega) hs.rii (by omega) HSG.out (by omega) (by omega) (by omega) (by omega)).mono ?_
  rintro e w5 ⟨rfl, b5⟩
  have z5 := b5.size
  have hm := hm.below b5 (by omega)
  have hs := hs.below b5 (by omega)
  have B5 := B4.trans (b5.mono (by omega))
  clear b5 B4
  rw [HD2.out]
  by_cases h0 : s.length = 0
  · skip
    have hz : ((s.length : Int) == 0) = true := by rw [h0]; rfl
    go_wp2
    go_ret
    exact ⟨rfl, B5⟩
  have hz : ((s.length : Int) == 0) = false := by rw [beq_eq_false_iff_ne]; omega
  have HC2 := Lib.hid (HCV.out (fun e => h0 (by rw [e]; rfl)))
  clear h0
  go_wp2_with fail
  refine (i_IsCovering hm (by omega) hs.rii (by omega) HSG.out (by omega) (by omega) (by omega) (by omega)).mono ?_
  rintro e w6 ⟨rfl, b6⟩
  have z6 := b6.size
  have hm := hm.below b6 (by omega)
  have hs := hs.below b6 (by omega)
  have B6 := B5.trans (b6.mono (by omega))
  clear b6 B5
  rw [HC2.out]
  go_wp2
  go_ret
  exact ⟨rfl, B6⟩

end Go.Proofs.Ytehoagbpgahopaa
