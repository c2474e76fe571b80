/- Walks: small models that are drawn, and what FnHuntFault and FnFewestTests draw. -/
import Derived.Test.YtehoagbpgahopaaRe
import Derived.Test.YtehoagbpgahopaaRl
import Derived.Test.YtehoagbpgahopaaWs
import Derived.Test.YtehoagbpgahopaaOc
import Derived.Deep.RegionWith
namespace Go.Proofs.Ytehoagbpgahopaa
open Go.RowKit

/-- levels 1 to 3, n of them at most -/
def MdJ (n : Nat) (l : List Int) : Prop := l.length ≤ n ∧ ∀ x ∈ l, 1 ≤ x ∧ x ≤ 3
theorem MdJ.ok {n : Nat} {l : List Int} (h : MdJ n l) (h0 : 1 ≤ l.length) (h5 : n ≤ 5) : okM l = true := by
  refine okM_mk h0 (Nat.le_trans h.1 h5) ?_
  rw [List.all_eq_true]
  exact fun x hx => inR_true.2 (h.2 x hx)

theorem MdJ.lp {n : Nat} {l : List Int} (h : MdJ n l) (h5 : n ≤ 5) : LP 5 l := ⟨Nat.le_trans h.1 h5, fun x hx => by have := h.2 x hx; omega⟩

set_option maxRecDepth 100000 in
set_option maxHeartbeats 2000000 in
theorem s_smallModelJ {b K : Nat} {w : World} (hr : Rdr w b K) (hK : K ≤ 1000000) :
    Calls Try.prog 160 #[.pointer (some ⟨b, 0, none⟩)] w (Dl w b (K + 6) w.heap.size (fun l => okM l = true ∧ LP 5 l)) := by
  have hlt := hr.lt
  obtain ⟨W1, hW1⟩ : ∃ W, w.alloc (.cells #[] 3) = W := ⟨_, rfl⟩
  have hb1 : Below w.heap.size w W1 := by rw [← hW1]; exact (Below.refl w.heap.size w).alloc (Nat.le_refl _) _
  have hs1 : w.heap.size + 1 ≤ W1.heap.size := by rw [← hW1]; simp
  have ho1 : OwnL W1 w.heap.size (.slice (some ⟨w.heap.size, 0, none⟩) 0 0) [] := by rw [← hW1]; exact OwnL.made w w.heap.size (Nat.le_refl _)
  have hb2 := (Below.refl W1.heap.size W1).alloc (Nat.le_refl _) (.cells #[.int .i64 2, .int .i64 3, .int .i64 2, .int .i64 1] 3)
  go_enter Try.func160, Try.ntmps160
  go_wp2_with fail
  refine (s_one ((hr.below hb1 hlt).below hb2 (by omega)) (by omega) (litW W1 _ [2, 3, 2, 1] rfl) (by simp) (by simp) (.inr (by omega)) (by simp)).mono ?_
  rintro e w2 ⟨n, rfl, hn, hr2, hu2⟩
  have hn5 : 1 ≤ n ∧ n ≤ 3 := by simp at hn; omega
  have ho2 := (ho1.same fun g _ h2 => hb2.block g h2).upd hu2 hlt
  have hU2 : UpB b w.heap.size w w2 := (((UpB.refl b w.heap.size w).below hb1 (Nat.le_refl _)).below hb2 (by omega)).upd hu2
  have hs2 := hU2.size
  clear hr hb1 hb2 ho1 hu2 hn hs1
  go_wp2
  go_loopw [3] (fun v wr => ∃ (a : Option Addr) (c : Nat) (l : List Int), v = .slice a l.length c ∧ OwnL wr w.heap.size (.slice a l.length c) l ∧ MdJ n.toNat l ∧ Rdr wr b (K + 1 + l.length) ∧ UpB b w.heap.size w wr) (fun v _ => n.toNat - lenV v)
  case atStart => exact ⟨_, _, [], rfl, ho2, ⟨Nat.zero_le _, by simp⟩, hr2, hU2⟩
  case round =>
    clear ho2 hr2 hU2
    obtain ⟨a, c, l, rfl, ho, hL, hr, hU⟩ := hrel
    have hl1 := hL.1
    have hlw := hr.lt
    have hszr := hU.size
    have HL := Lib.hid hL
    clear hL hW1
    by_cases hlt2 : (l.length : Int) < n
    · have hb3 := (Below.refl wr.heap.size wr).alloc (Nat.le_refl _) (.cells #[.int .i64 2, .int .i64 2, .int .i64 3, .int .i64 1] 3)
      go_wp2_with fail
      refine (s_one (hr.below hb3 hlw) (by omega) (litW wr _ [2, 2, 3, 1] rfl) (by simp) (by simp) (.inr hlw) (by simp)).mono ?_
      rintro e w3 ⟨x, rfl, hx, hr3, hu3⟩
      have hx3 : 1 ≤ x ∧ x ≤ 3 := by simp at hx; omega
      have ho3 := (ho.same fun g _ h2 => hb3.block g h2).upd hu3 hlt
      have hU3 := (hU.below hb3 (by omega)).upd hu3
      have hs3 := hU3.size
      clear ho hr hU hu3 hx hb3
      go_wp2_with (first
        | (at_builtin; refine wpList_app1 rfl _ _ rfl w.heap.size _ l rfl ho3 x rfl (by omega) hs3 ?_; intro v4 w4 ho4 hb4)
        | go_in)
      obtain ⟨a4, c4, rfl, _⟩ := ho4.slice
      have hr4 := hr3.below hb4 hlt
      have hU4 := hU3.below hb4 (Nat.le_refl _)
      have HL4 : Hid (MdJ n.toNat (l ++ [x])) := ⟨by simp; omega, fun y hy => by rcases List.mem_append.1 hy with hy | hy; exact HL.out.2 y hy; rw [List.mem_singleton] at hy; rw [hy]; exact hx3⟩
      clear ho3 hr3 hU3 hb4
      go_roundw
      case rel => exact ⟨a4, c4, l ++ [x], rfl, ho4, HL4.out, hr4.mono (by simp; omega), hU4⟩
      case measure => simp [lenV]; omega
    · go_wp2
      go_ret
      exact ⟨a, c, l, rfl, ho, ⟨MdJ.ok HL.out (by omega) (by omega), MdJ.lp HL.out (by omega)⟩, hr.mono (by omega), hU⟩

set_option maxRecDepth 100000 in
set_option maxHeartbeats 1000000 in
theorem s_DrawHuntFault {n : Nat} {a : Option Addr} {c : Nat} {w : World} (hm : RB w w.heap.size a n) (hc : n ≤ c) (hl : n ≤ 1048576) :
    Calls Try.prog 114 #[.slice a n c] w (Dr2 w 10 11) := by
  go_enter Try.func114, Try.ntmps114
  go_wp2_with fail
  refine (s_newReader hm hc hl).mono ?_
  rintro e w1 ⟨rfl, hr1, hb1⟩
  have hlt := hr1.lt
  go_wp2_with fail
  refine (s_smallModelJ hr1 (by omega)).mono ?_
  rintro e w2 ⟨a2, c2, m2, rfl, ho2, ⟨_, hL2⟩, hr2, hU2⟩
  go_wp2_with fail
  refine (s_bentModel hr2 (by omega) ho2 rfl hL2 (by omega) hlt hU2.size).mono ?_
  rintro e w3 ⟨a3, c3, m3, rfl, ho3, hL3, hr3, hU3⟩
  have hU := hU2.trans hU3
  have hcap := ho3.cap.2
  obtain ⟨a5, c5, e5, hoi⟩ := ho3.slice
  cases e5
  go_wp2_with fail
  refine (s_somePattern hr3 hoi.ri (Nat.le_refl _) hlt hL3 (by omega)).mono ?_
  rintro e w4 ⟨a4, c4, t, rfl, ho4, hL4, hr4, hU4⟩
  have hri := gotUpB hoi.ri hU4 hlt
  have hcap4 := ho4.cap.2
  obtain ⟨a6, c6, e6, hoi4⟩ := ho4.slice
  cases e6
  have hs4 := hU4.size
  have hs3 := hU.size
  go_wp2
  go_ret2
  exact ⟨_, _, m3, _, _, t, rfl, ⟨⟨hri.wide (by omega) hs4, hL3, hcap⟩, ⟨hoi4.ri.wide (by omega) (Nat.le_refl _), hL4, hcap4⟩⟩, hb1.trans ((hU.trans (hU4.less hs3)).toBelow (by omega) (by omega))⟩

set_option maxRecDepth 100000 in
set_option maxHeartbeats 1000000 in
theorem s_DrawFewestTests {n : Nat} {a : Option Addr} {c : Nat} {w : World} (hm : RB w w.heap.size a n) (hc : n ≤ c) (hl : n ≤ 1048576) :
    Calls Try.prog 65 #[.slice a n c] w (fun e w' => ∃ (a1 : Option Addr) (c1 : Nat) (m : List Int) (t : Int), e = .returned (.tuple #[.slice a1 m.length c1, .int .i64 t]) ∧ (Got w w' 10 a1 c1 m ∧ -4 ≤ t ∧ t ≤ 6) ∧ Below w.heap.size w w') := by
  go_enter Try.func65, Try.ntmps65
  go_wp2_with fail
  refine (s_newReader hm hc hl).mono ?_
  rintro e w1 ⟨rfl, hr1, hb1⟩
  have hlt := hr1.lt
  go_wp2_with fail
  refine (s_smallModelJ hr1 (by omega)).mono ?_
  rintro e w2 ⟨a2, c2, m2, rfl, ho2, ⟨_, hL2⟩, hr2, hU2⟩
  go_wp2_with fail
  refine (s_bentModel hr2 (by omega) ho2 rfl hL2 (by omega) hlt hU2.size).mono ?_
  rintro e w3 ⟨a3, c3, m3, rfl, ho3, hL3, hr3, hU3⟩
  have hU := hU2.trans hU3
  have hcap := ho3.cap.2
  obtain ⟨a5, c5, e5, hoi⟩ := ho3.slice
  cases e5
  go_wp2_with fail
  refine (s_aStrength hr3 (by omega)).mono ?_
  rintro e w4 ⟨t, rfl, ht, hr4, hU4⟩
  have hri := gotUpB hoi.ri hU4 hlt
  have hs4 := hU4.size
  go_wp2
  go_ret2
  exact ⟨_, _, m3, t, rfl, ⟨⟨hri.wide (by omega) hs4, hL3, hcap⟩, ht⟩, hb1.trans ((hU.trans (hU4.less (hU.size))).toBelow (by omega) (by omega))⟩

/- Walks: small models with suites that are drawn (DrawIsLocating, DrawIsDetecting). -/
open Go.RowKit

/-- a small model, a suite and a strength that were drawn -/
def DrV (w : World) (e : Ending) (w' : World) : Prop := ∃ (a1 : Option Addr) (c1 : Nat) (m : List Int) (a2 : Option Addr) (c2 : Nat) (s : List (List Int)) (t : Int), e = .returned (.tuple #[.slice a1 m.length c1, .slice a2 s.length c2, .int .i64 t]) ∧ (RI w' w.heap.size w'.heap.size a1 m ∧ m.length ≤ 10 ∧ RII w' w.heap.size w'.heap.size a2 s ∧ s.length ≤ 24 ∧ (∀ r ∈ s, r.length ≤ 12) ∧ -4 ≤ t ∧ t ≤ 6) ∧ Below w.heap.size w w'
theorem minTwenty (x : Int) (wx : World) : (Builtin.min_ #[3, 3] 3 #[.int .i64 x, .int .i64 20]).run Try.prog wx = .ok (.int .i64 (min x 20)) wx := by
  rw [run_min_int2]
  congr 2
  split <;> omega
theorem belowA {w w1 : World} (h : Below w.heap.size w w1) (o : Obj) : Below w.heap.size w (w1.alloc o) := h.alloc h.size o
theorem belowD {w w1 : World} (h : Below w.heap.size w w1) : Below w.heap.size w w1.drew := h.drew
theorem belowStep {w0 w1 w2 : World} (h : Below w0.heap.size w0 w1) (k : Below w1.heap.size w1 w2) : Below w0.heap.size w0 w2 := h.trans (k.mono h.size)
theorem upStep {b : Nat} {w0 w1 w2 : World} (h : Below w0.heap.size w0 w1) (k : UpB b w1.heap.size w1 w2) : UpB b w0.heap.size w0 w2 := ((UpB.refl b w0.heap.size w0).below h (Nat.le_refl _)).trans (k.less h.size)

set_option maxRecDepth 100000 in
set_option maxHeartbeats 8000000 in
theorem s_DrawIsLocating {n : Nat} {a : Option Addr} {c : Nat} {w : World} (hm : RB w w.heap.size a n) (hc : n ≤ c) (hl : n ≤ 1048576) :
    Calls Try.prog 104 #[.slice a n c] w (DrV w) := by
  go_enter Try.func104, Try.ntmps104
  go_wp2_with fail
  refine (s_newReader hm hc hl).mono ?_
  rintro e w1 ⟨rfl, hr1, hb1⟩
  have hlt := hr1.lt
  go_wp2_with fail
  refine (s_smallModelJ hr1 (by omega)).mono ?_
  rintro e w2 ⟨a3, c3, m, rfl, ho2, ⟨hok, hL2⟩, hr2, hU2⟩
  have hs2 := hU2.size
  have hm5 := okM_len hok
  go_wp2_with fail
  refine (s_pick hr2 (by omega) (by omega) (by omega)).mono ?_
  rintro e w4 ⟨v, rfl, hv, hr4, hu4⟩
  have hs4 := hu4.size
  have ho4 := ho2.upd hu4 hlt
  have hU4 := hU2.upd hu4
  have hlt4 := hr4.lt
  clear hr2 hU2 ho2 hr1 hu4 hv
  by_cases e0 : v = 0
  case neg =>
    have hvne : (v == 0) = false := by rw [beq_eq_false_iff_ne]; exact e0
    go_wp2_with fail
    refine (s_someSuite hr4 ho4 rfl hlt (by omega) hL2 (by omega) (by omega)).mono ?_
    rintro e w5 ⟨a5, c5, s, rfl, ho5, hS5, hr5, hm5', hU5⟩
    have hs5 := hU5.size
    obtain ⟨a6, c6, e6, hR⟩ := ho5.riic
    cases e6
    have hUU := hU4.trans hU5
    have hsl := hS5.1
    have HSR : Hid (∀ r ∈ s, r.length ≤ 12) := fun r hr => by have := (hS5.2 r hr).1; omega
    clear ho4 hr4 hU4 hU5 ho5 hS5
    go_wp2_with fail
    refine (s_aStrength hr5 (by omega)).mono ?_
    rintro e w7 ⟨t, rfl, ht, hr7, hU7⟩
    have hs7 := hU7.size
    have hm7 := hm5'.upB hU7 (Nat.le_refl _) (Nat.le_refl _) hlt
    have hR7 : RII w7 w4.heap.size w5.heap.size a5 s := hR.rii.same fun k h1 h2 => hU7.block k (by omega) (by omega) (by omega)
    have hUe := hUU.trans (hU7.less (by omega))
    clear hm5' hR hUU hU7 hr5 hr7
    go_wp2
    go_ret3
    exact ⟨_, _, m, _, _, s, t, rfl, ⟨hm7.wide (by omega) (by omega), by omega, hR7.wide (by omega) (by omega), hsl, HSR.out, ht.1, ht.2⟩, hb1.trans (hUe.toBelow (by omega) (by omega))⟩
  subst e0
  obtain ⟨a6, c6, e6, hoi⟩ := ho4.slice
  cases e6
  have hri := hoi.ri
  obtain ⟨S, hS⟩ : ∃ S, extS m [] = S := ⟨_, rfl⟩
  have hne := ext_ne hok
  rw [hS] at hne
  have hS0 : 0 < S.length := List.length_pos_iff.2 hne
  have hSl : S.length ≤ 1024 := by rw [← hS]; unfold extS; exact patS_len hok _
  have HSR : Hid (∀ r ∈ S, r.length ≤ 12) := by show ∀ r ∈ S, _; intro r hr; rw [← hS] at hr; unfold extS at hr; have := patS_row r hr; omega
  have HCE : Hid (∀ (w' : World) (g : Nat), Below w4.heap.size w4 w' → Calls Try.prog 161 #[.slice a3 m.length c3, .slice (some ⟨g, 0, none⟩) 0 0] w' (NewIIs w' S)) := fun w' g hb => by
    rw [← hS]
    exact s_extend hok m.length [] a3 ⟨g, 0, none⟩ c3 0 _ w4.heap.size 0 0 w' (by simp) (hri.below hb (Nat.le_refl _)) hb.size (RI.nil _ _ _ _) (Nat.zero_le _)
  have HCS : Hid (∀ (w' : World), Below w4.heap.size w4 w' → Calls Try.prog 138 #[.pointer (some ⟨w.heap.size, 0, none⟩)] w' (fun e w'' => ∃ t : Int, e = .returned (.int .i64 t) ∧ (-4 ≤ t ∧ t ≤ 6) ∧ UpB w.heap.size w'.heap.size w' w'')) := fun w' hb => by
    refine (s_aStrength (hr4.below hb hlt4) (by omega)).mono ?_
    rintro e w'' ⟨t, h1, h2, _, h4⟩
    exact ⟨t, h1, h2, h4⟩
  obtain ⟨T, hT⟩ : ∃ T, S.take 20 = T := ⟨_, rfl⟩
  have hTl : (T.length : Int) = min (S.length : Int) 20 := by rw [← hT, List.length_take]; omega
  have hmin : ∀ wx : World, (Builtin.min_ #[3, 3] 3 #[.int .i64 (S.length : Int), .int .i64 20]).run Try.prog wx = .ok (.int .i64 (T.length : Int)) wx := fun wx => by rw [minTwenty, hTl]
  have hT20 : T.length ≤ 20 ∧ T.length ≤ S.length := by omega
  have HTR : Hid (∀ r ∈ T, r.length ≤ 12) := fun r hr => by rw [← hT] at hr; exact HSR.out r (List.mem_of_mem_take hr)
  have HTE := Lib.hid hT
  clear hS hT hTl hne ho4 hr4 HSR
  have hq0 : Below w4.heap.size w4 w4 := Below.refl _ _
  go_wp2_with fail
  go_region_with (first
    | (go_at_call 161; refine (HCE.out _ _ (by (repeat (first | exact hq1 | refine belowA ?_ _ | refine belowD ?_)))).mono ?_; rintro e v2 ⟨ad2, cc2, rfl, h2, hb2⟩; have hp2 : Below v1.heap.size v1 v2 := belowStep (by (repeat (first | exact Below.refl _ _ | refine belowA ?_ _ | refine belowD ?_))) hb2; have hq2 := belowStep hq1 hp2)
    | (go_at_call 161; refine (HCE.out _ _ (by (repeat (first | exact hq0 | refine belowA ?_ _ | refine belowD ?_)))).mono ?_; rintro e v1 ⟨ad1, cc1, rfl, h1, hb1'⟩; have hq1 : Below w4.heap.size w4 v1 := belowStep (by (repeat (first | exact hq0 | refine belowA ?_ _ | refine belowD ?_))) hb1'; obtain ⟨b1, o1, _, _, _, ha1, _⟩ := h1.rii.at hS0; obtain rfl : ad1 = ⟨b1, o1, none⟩ := Option.some.inj ha1; have hcap1 := h1.cap; have hR1 : RII v1 w4.heap.size v1.heap.size (some ⟨b1, o1, none⟩) S := h1.rii.wide (Below.size (w := w4) (B := w4.heap.size) (by (repeat (first | exact hq0 | refine belowA ?_ _ | refine belowD ?_)))) (Nat.le_refl _); have hto := fun wx => sliceToII (b := b1) (o := o1) (n := S.length) (c := cc1) (k := T.length) (z := (T.length : Int)) rfl (by omega) wx)
    | (go_at_call 138; refine (HCS.out _ (by (repeat (first | exact hq2 | refine belowA ?_ _ | refine belowD ?_)))).mono ?_; rintro e v3 ⟨t, rfl, ht, hU3⟩; have hu1 : UpB w.heap.size v1.heap.size v1 v3 := upStep (by (repeat (first | exact hp2 | refine belowA ?_ _ | refine belowD ?_))) hU3; have hu4 : UpB w.heap.size w4.heap.size w4 v3 := upStep (by (repeat (first | exact hq2 | refine belowA ?_ _ | refine belowD ?_))) hU3))
  all_goals
    have hs1 := hq1.size
    have hs3 := hu1.size
    have hri3 := hri.upB hu4 (Nat.le_refl _) (Nat.le_refl _) hlt
    have hR3 := (hR1.same (w' := v3) fun k h1 h2 => hu1.block k (by omega) (by omega) (by omega)).takeR 20
    rw [HTE.out] at hR3
    have hUe := hU4.trans (hu4.less (by omega))
    go_wp2
    go_ret3
    exact ⟨_, _, m, _, _, T, t, rfl, ⟨hri3.wide (by omega) (by omega), by omega, hR3.wide (by omega) (by omega), by omega, HTR.out, ht.1, ht.2⟩, hb1.trans (hUe.toBelow (by omega) (by omega))⟩

set_option maxRecDepth 100000 in
theorem s_DrawIsDetecting {n : Nat} {a : Option Addr} {c : Nat} {w : World} (hm : RB w w.heap.size a n) (hc : n ≤ c) (hl : n ≤ 1048576) :
    Calls Try.prog 107 #[.slice a n c] w (DrV w) := by
  go_enter Try.func107, Try.ntmps107
  go_wp2_with fail
  refine (s_DrawIsLocating hm hc hl).mono ?_
  rintro e w1 ⟨a1, c1, m, a2, c2, s, t, rfl, h⟩
  go_wp2
  go_ret3
  exact ⟨_, _, m, _, _, s, t, rfl, h⟩

end Go.Proofs.Ytehoagbpgahopaa
