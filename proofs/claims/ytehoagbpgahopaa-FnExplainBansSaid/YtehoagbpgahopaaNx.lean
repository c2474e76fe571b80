/- Walks: ExplainBans of the specification. -/
import Derived.Test.YtehoagbpgahopaaZj
import Derived.Test.YtehoagbpgahopaaZn
import Derived.Test.YtehoagbpgahopaaOc
import Derived.Test.YtehoagbpgahopaaZb
import Derived.Lib.AppendZerosOnto
import Derived.Deep.RegionLaw
import Derived.Test.YtehoagbpgahopaaZk
import Derived.Test.YtehoagbpgahopaaTg
import Derived.Test.YtehoagbpgahopaaUi
namespace Go.Proofs.Ytehoagbpgahopaa
open Go.RowKit

def lN (l : List Nat) : List Int := l.map fun (i : Nat) => (i : Int)
theorem lN_len (l : List Nat) : (lN l).length = l.length := by simp [lN]
theorem lN_snoc (l : List Nat) (x : Nat) : lN l ++ [(x : Int)] = lN (l ++ [x]) := by simp [lN]
theorem lN_at {l : List Nat} {i x : Nat} (h : l[i]? = some x) : (lN l)[i]? = some (x : Int) := by simp [lN, h]
theorem out_less {k : Nat} {hi : List Nat} (h : ∀ x ∈ hi, k < x) : (List.range (k + 1) ++ hi).filter (· != k) = List.range k ++ hi := by
  rw [List.range_succ, List.filter_append, List.filter_append]
  have h1 : (List.range k).filter (· != k) = List.range k := List.filter_eq_self.2 fun x hx => by
    have := List.mem_range.1 hx
    rw [bne_iff_ne]; omega
  have h2 : hi.filter (· != k) = hi := List.filter_eq_self.2 fun x hx => by
    have := h x hx
    rw [bne_iff_ne]; omega
  rw [h1, h2]; simp
theorem out_keep (k : Nat) (hi : List Nat) : List.range (k + 1) ++ hi = List.range k ++ (k :: hi) := by rw [List.range_succ]; simp

/-- how far ExplainBans is when K bans are left to look at -/
structure ExS (f : List Nat → Bool) (n K : Nat) (hi : List Nat) : Prop where
  val : exG f K hi = exG f n []
  up : ∀ x ∈ hi, K ≤ x ∧ x < n
  len : hi.length + K ≤ n
theorem ExS.start (f : List Nat → Bool) (n : Nat) : ExS f n n [] := ⟨rfl, by simp, by simp⟩
theorem ExS.keep {f : List Nat → Bool} {n k : Nat} {hi : List Nat} (h : ExS f n (k + 1) hi) (hf : f (List.range k ++ hi) = true) : ExS f n k (k :: hi) := by
  have hl := h.len
  refine ⟨by rw [← h.val]; simp only [exG]; rw [hf]; rfl, fun x hx => ?_, by simp; omega⟩
  rcases List.mem_cons.1 hx with rfl | hx
  · omega
  · have := h.up x hx; omega
theorem ExS.drop {f : List Nat → Bool} {n k : Nat} {hi : List Nat} (h : ExS f n (k + 1) hi) (hf : f (List.range k ++ hi) = false) : ExS f n k hi := by
  have hl := h.len
  refine ⟨by rw [← h.val]; simp only [exG]; rw [hf]; rfl, fun x hx => ?_, by omega⟩
  have := h.up x hx; omega
theorem ExS.fin {f : List Nat → Bool} {n : Nat} {hi : List Nat} (h : ExS f n 0 hi) : hi = exG f n [] := by rw [← h.val]; rfl
theorem pk_snoc {b : List (List Int)} {l : List Nat} {i x : Nat} {r : List Int} (h : l[i]? = some x) (hr : b[x]? = some r) : pk b (l.take (i + 1)) = pk b (l.take i) ++ [r] := by
  unfold pk
  rw [List.take_add_one, h]
  simp [List.getD, hr]
theorem fil_snoc {l : List Nat} {i x k : Nat} (h : l[i]? = some x) : (l.take (i + 1)).filter (· != k) = (l.take i).filter (· != k) ++ if x != k then [x] else [] := by
  rw [List.take_add_one, h, List.filter_append]
  cases hx : x != k <;> simp [hx]

theorem GotNB.none {w w' : World} {l : List Int} {b : Bool} (h : l = [] ∧ b = false) (hb : Below w.heap.size w w') : NewIB w l b (.returned (.tuple #[.slice none 0 0, .bool false])) w' := by
  obtain ⟨rfl, rfl⟩ := h
  exact ⟨Option.none, 0, rfl, fun k hk => absurd hk (by simp), hb⟩

set_option maxRecDepth 100000 in
set_option maxHeartbeats 8000000 in
theorem s_ExplainBans {m : List Int} {s : List (List Int)} {p : List Int} {a a1 a3 : Option Addr} {c c1 c3 lo hi lo1 hi1 lo3 hi3 : Nat} {w : World} (hm : RI w lo hi a m) (hlm : m.length ≤ 9223372036854775807) (hs0 : RII w lo1 hi1 a1 s) (hls : s.length ≤ 9223372036854775807) (hg : ∀ r ∈ s, r.length ≤ 9223372036854775807) (hp : RI w lo3 hi3 a3 p) (hlp : p.length ≤ 9223372036854775807) (hB : hi ≤ w.heap.size) (hB1 : hi1 ≤ w.heap.size) (hB3 : hi3 ≤ w.heap.size) :
    Calls Try.prog 87 #[.slice a m.length c, .slice a1 s.length c1, .slice a3 p.length c3] w (NewIB w (exL m s p) (exB m s p)) := by
  have HG := Lib.hid hg; clear hg
  have hs : RII w 0 hi1 a1 s := hs0.wide (Nat.zero_le _) (Nat.le_refl _)
  clear hs0
  cases hok : okM m
  · have HOK := Lib.hid hok; clear hok
    have HN : Hid (exL m s p = [] ∧ exB m s p = false) := by have h := exB_no (m := m) (b := s) (p := p) (by rw [HOK.out]; rfl); exact ⟨ex_no h, h⟩
    go_enter Try.func87, Try.ntmps87
    go_wp2_with fail
    refine (s_validModel hm hlm).mono ?_
    rintro e w1 ⟨rfl, d1⟩
    rw [HOK.out]
    go_wp2
    go_ret2
    exact GotNB.none HN.out (Dr.below d1 _)
  have HOK := Lib.hid hok; clear hok
  cases hob : okBn m s
  · have HOB := Lib.hid hob; clear hob
    have HN : Hid (exL m s p = [] ∧ exB m s p = false) := by have h := exB_no (m := m) (b := s) (p := p) (by rw [HOB.out]; simp); exact ⟨ex_no h, h⟩
    go_enter Try.func87, Try.ntmps87
    go_wp2_with fail
    refine (s_validModel hm hlm).mono ?_
    rintro e w1 ⟨rfl, d1⟩
    rw [HOK.out]
    go_wp2_with fail
    refine (s_validBans (hm.dr d1) (hs.dr d1) HOK.out hls HG.out).mono ?_
    rintro e w2 ⟨rfl, d2⟩
    rw [HOB.out]
    go_wp2
    go_ret2
    exact GotNB.none HN.out (Dr.below (Dr.trans d1 d2) _)
  have HOB := Lib.hid hob; clear hob
  cases hop : okP m p
  · have HOP := Lib.hid hop; clear hop
    have HN : Hid (exL m s p = [] ∧ exB m s p = false) := by have h := exB_no (m := m) (b := s) (p := p) (by rw [HOP.out]; simp); exact ⟨ex_no h, h⟩
    go_enter Try.func87, Try.ntmps87
    go_wp2_with fail
    refine (s_validModel hm hlm).mono ?_
    rintro e w1 ⟨rfl, d1⟩
    rw [HOK.out]
    go_wp2_with fail
    refine (s_validBans (hm.dr d1) (hs.dr d1) HOK.out hls HG.out).mono ?_
    rintro e w2 ⟨rfl, d2⟩
    rw [HOB.out]
    have D2 := Dr.trans d1 d2
    go_wp2_with fail
    refine (s_validPattern (hm.dr D2) (hp.dr D2) HOK.out hlp).mono ?_
    rintro e w3 ⟨rfl, d3⟩
    rw [HOP.out]
    go_wp2
    go_ret2
    exact GotNB.none HN.out (Dr.below (Dr.trans D2 d3) _)
  have HOP := Lib.hid hop; clear hop
  have hm5 := okM_len HOK.out
  have HPL := Lib.hid (okW_len HOP.out)
  have hsl := okBn_len HOB.out
  have HR := Lib.hid (bn_rows HOB.out)
  cases hps : hasP (alL m s) p
  case true =>
    have HPS := Lib.hid hps; clear hps
    have HN : Hid (exL m s p = [] ∧ exB m s p = false) := by have h : exB m s p = false := by { rw [exB_mk HOK.out HOB.out HOP.out, HPS.out]; rfl }; exact ⟨ex_no h, h⟩
    go_enter Try.func87, Try.ntmps87
    go_wp2_with fail
    refine (s_validModel hm hlm).mono ?_
    rintro e w1 ⟨rfl, d1⟩
    rw [HOK.out]
    go_wp2_with fail
    refine (s_validBans (hm.dr d1) (hs.dr d1) HOK.out hls HG.out).mono ?_
    rintro e w2 ⟨rfl, d2⟩
    rw [HOB.out]
    have D2 := Dr.trans d1 d2
    go_wp2_with fail
    refine (s_validPattern (hm.dr D2) (hp.dr D2) HOK.out hlp).mono ?_
    rintro e w3 ⟨rfl, d3⟩
    rw [HOP.out]
    have D3 := Dr.trans D2 d3
    have Z3 := Dr.le D3
    go_wp2_with fail
    refine (s_possible HOK.out (hm.dr D3) (by omega) (hs.dr D3) (by omega) (by omega) HR.out (hp.dr D3) (by omega) HPL.out).mono ?_
    rintro e w4 ⟨rfl, b4⟩
    rw [HPS.out]
    go_wp2
    go_ret2
    exact GotNB.none HN.out ((Dr.below D3 _).trans (b4.mono Z3.2))
  have HPS := Lib.hid hps; clear hps
  have HEB : Hid (exB m s p = true) := by show _ = _; rw [exB_mk HOK.out HOB.out HOP.out, HPS.out]; rfl
  have HEL : Hid (exL m s p = lN (exG (exF m s p) s.length [])) := ex_yes HEB.out
  have HX0 := Lib.hid (ExS.start (exF m s p) s.length)
  go_enter Try.func87, Try.ntmps87
  go_wp2_with fail
  refine (s_validModel hm hlm).mono ?_
  rintro e w1 ⟨rfl, d1⟩
  rw [HOK.out]
  go_wp2_with fail
  refine (s_validBans (hm.dr d1) (hs.dr d1) HOK.out hls HG.out).mono ?_
  rintro e w2 ⟨rfl, d2⟩
  rw [HOB.out]
  have D2 := Dr.trans d1 d2
  go_wp2_with fail
  refine (s_validPattern (hm.dr D2) (hp.dr D2) HOK.out hlp).mono ?_
  rintro e w3 ⟨rfl, d3⟩
  rw [HOP.out]
  have D3 := Dr.trans D2 d3
  have Z3 := Dr.le D3
  go_wp2_with fail
  refine (s_possible HOK.out (hm.dr D3) (by omega) (hs.dr D3) (by omega) (by omega) HR.out (hp.dr D3) (by omega) HPL.out).mono ?_
  rintro e w4 ⟨rfl, b4⟩
  rw [HPS.out]
  have z4 := b4.size
  have hm4 := (hm.dr D3).below b4 (by omega)
  have hs4 := (hs.dr D3).below b4 (by omega)
  have hp4 := (hp.dr D3).below b4 (by omega)
  have B4 := (Dr.below D3 w.heap.size).trans (b4.mono Z3.2)
  have Z4 : w.heap.size ≤ w4.heap.size := by omega
  have hst := OwnL.made w4 w4.heap.size (Nat.le_refl _)
  have hbA := (Below.refl w4.heap.size w4).alloc (Nat.le_refl _) (.cells #[] 3)
  obtain ⟨f, hf⟩ : ∃ f, exF m s p = f := ⟨_, rfl⟩
  have HF := Lib.hid hf
  rw [hf] at HX0 HEL
  clear hm hs hp d1 d2 d3 D2 D3 b4 hf Z3 z4
  go_wp2
  go_loopw [8, 9] (fun v i wr => ∃ (j : Nat) (a : Option Addr) (c : Nat) (l : List Int), j ≤ s.length ∧ i = .int .i64 j ∧ v = .slice a l.length c ∧ Hid (l = lN (List.range j)) ∧ Hid (l.length = j) ∧ OwnL wr w4.heap.size (.slice a l.length c) l ∧ Below w4.heap.size w4 wr) (fun _ i _ => s.length - (intOf i).toNat)
  case atStart => exact ⟨0, _, _, [], Nat.zero_le _, rfl, rfl, rfl, rfl, hst, hbA⟩
  case round =>
    clear hst hbA
    obtain ⟨j, al, cl, l, hj, rfl, rfl, hl, hll, ho, hbw⟩ := hrel
    have hsz := hbw.size
    by_cases hlt : j < s.length
    · go_wp2_with (first
        | (at_builtin; refine wpList_app1 rfl _ _ rfl w4.heap.size _ l rfl ho (j : Int) rfl (by have := hll.out; omega) hsz ?_; intro v6 w6 ho6 hb6)
        | go_in)
      obtain ⟨a6, c6, rfl, _⟩ := ho6.slice
      go_roundw
      case rel => exact ⟨j + 1, a6, c6, l ++ [(j : Int)], by omega, by go_num, rfl, by show _ = _; rw [hl.out, lN_snoc, ← List.range_succ], by show _ = _; have := hll.out; simp; omega, ho6, hbw.trans hb6⟩
      case measure => simp [intOf]; omega
    · have hjn : j = s.length := by omega
      obtain ⟨a7, c7, e7, ho7⟩ := ho.slice
      obtain ⟨rfl, rfl⟩ : al = a7 ∧ cl = c7 := by simpa using e7
      have HL0 : Hid (l = lN (List.range s.length ++ [])) := by show _ = _; rw [hl.out, hjn, List.append_nil]
      have HLL0 : Hid (l.length ≤ s.length) := by show _ ≤ _; have := hll.out; omega
      have hwn : IntKind.i64.wrap ((s.length : Int) - 1) = (s.length : Int) - 1 := by rw [IntWalk.i64_in _ (by omega)]
      obtain ⟨wo, hwo⟩ : ∃ wo, wo = wr := ⟨_, rfl⟩
      subst hwo
      clear ho e7 hl hll hjn
      go_wp2
      go_loopw [8, 10, 11, 12, 13, 14] (fun v k _ _ _ _ wr => ∃ (K : Nat) (up : List Nat) (a : Option Addr) (c : Nat) (l : List Int), K ≤ s.length ∧ k = .int .i64 ((K : Int) - 1) ∧ v = .slice a l.length c ∧ Hid (l = lN (List.range K ++ up)) ∧ Hid (l.length ≤ s.length) ∧ Hid (ExS f s.length K up) ∧ OIc wr w4.heap.size wr.heap.size a c l ∧ Below w4.heap.size w4 wr) (fun _ k _ _ _ _ _ => (intOf k + 1).toNat)
      case atStart => exact ⟨s.length, [], al, cl, l, Nat.le_refl _, rfl, rfl, HL0, HLL0, HX0, ho7, hbw⟩
      case round =>
        clear ho7 hbw HL0 HLL0 HX0 hsz
        obtain ⟨K, up, al, cl, l, hK, rfl, rfl, hl, hll, hX, ho, hbw⟩ := hrel
        have hsz := hbw.size
        by_cases hK0 : K = 0
        · subst hK0
          have hd : decide ((0 : Int) ≤ ((0 : Nat) : Int) - 1) = false := rfl
          have HE : Hid (l = exL m s p) := by show _ = _; rw [hl.out, HEL.out, ← hX.out.fin]; rfl
          have hB := B4.trans (hbw.mono Z4)
          have hO := ho.oi.wide Z4 (Nat.le_refl _)
          go_wp2
          go_ret2
          rw [HE.out] at hO ⊢
          exact ⟨_, _, by rw [HEB.out]; rfl, hO, hB⟩
        obtain ⟨k, rfl⟩ : ∃ k, K = k + 1 := ⟨K - 1, by omega⟩
        have hke : (((k + 1 : Nat) : Int) - 1) = (k : Int) := by omega
        rw [hke]
        have hd : decide ((0 : Int) ≤ (k : Int)) = true := decide_eq_true (by omega)
        obtain ⟨O, hO⟩ : ∃ O, List.range (k + 1) ++ up = O := ⟨_, rfl⟩
        obtain ⟨le, hle⟩ : ∃ le, List.range k ++ up = le := ⟨_, rfl⟩
        have HLE : Hid (O.filter (· != k) = le) := by show _ = _; rw [← hO, ← hle]; exact out_less fun x hx => by have := hX.out.up x hx; omega
        rw [hO] at hl
        have hl5 : l.length ≤ 5 := by have := hll.out; omega
        have HOL : Hid (O.length = l.length) := by show _ = _; rw [hl.out, lN_len]
        have HLT : Hid (∀ x ∈ le, x < s.length) := by
          show ∀ x ∈ le, _
          intro x hx
          rw [← hle] at hx
          rcases List.mem_append.1 hx with hx | hx
          · have := List.mem_range.1 hx; omega
          · exact (hX.out.up x hx).2
        have HKP : Hid (f le = true → ExS f s.length k (k :: up)) := fun h => hX.out.keep (by rw [hle]; exact h)
        have HDP : Hid (f le = false → ExS f s.length k up) := fun h => hX.out.drop (by rw [hle]; exact h)
        have HOK2 : Hid (O = List.range k ++ (k :: up)) := by show _ = _; rw [← hO]; exact out_keep k up
        have HLE2 : Hid (le = List.range k ++ up) := hle.symm
        obtain ⟨wo, hwo⟩ : ∃ wo, wo = wr := ⟨_, rfl⟩
        subst hwo
        have hstL := OwnL.made wo wo.heap.size (Nat.le_refl _)
        have hbL := (Below.refl wo.heap.size wo).alloc (Nat.le_refl _) (.cells #[] 3)
        clear hO hle hke hX hK0
        go_wp2
        go_loopw [11, 12] (fun v i wr => ∃ (x : Nat) (a : Option Addr) (c : Nat) (q : List Int), x ≤ l.length ∧ i = .int .i64 x ∧ v = .slice a q.length c ∧ Hid (q = lN ((O.take x).filter (· != k))) ∧ Hid (q.length ≤ x) ∧ OwnL wr wo.heap.size (.slice a q.length c) q ∧ Below wo.heap.size wo wr) (fun _ i _ => l.length - (intOf i).toNat)
        case atStart => exact ⟨0, _, _, [], Nat.zero_le _, rfl, rfl, rfl, Nat.le_refl _, hstL, hbL⟩
        case round =>
          clear hstL hbL
          obtain ⟨x, aq, cq, q, hx, rfl, rfl, hq, hql, hoq, hbq⟩ := hrel
          have hszq := hbq.size
          by_cases hxl : x < l.length
          · obtain ⟨y, hy⟩ : ∃ y, O[x]? = some y := ⟨_, List.getElem?_eq_getElem (by rw [HOL.out]; exact hxl)⟩
            obtain ⟨b5, o5, y5, ha5, _, _, hc5, hx5⟩ := (ho.oi.ri.below hbq (Nat.le_refl _)).at hxl
            have hy5 : y5 = (y : Int) := by
              have h := hx5.out
              rw [hl.out, lN_at hy] at h
              exact (Option.some.inj h).symm
            subst hy5
            have hidx := idxI ha5 hxl cl
            have HFS := Lib.hid (fil_snoc (k := k) hy)
            clear ha5 hx5 hy
            by_cases hyk : y = k
            · have hne : ((y : Int) != (k : Int)) = false := by rw [hyk]; exact bne_self_eq_false _
              have HQ : Hid (q = lN ((O.take (x + 1)).filter (· != k))) := by show _ = _; rw [HFS.out, hyk, bne_self_eq_false, hq.out]; simp
              clear hyk
              go_wp2
              go_roundw
              case rel => exact ⟨x + 1, aq, cq, q, by omega, by go_num, rfl, HQ, by show _ ≤ _; have := hql.out; omega, hoq, hbq⟩
              case measure => simp [intOf]; omega
            · have hne : ((y : Int) != (k : Int)) = true := by rw [bne_iff_ne]; intro e; exact hyk (by exact_mod_cast e)
              have HQ : Hid (q ++ [(y : Int)] = lN ((O.take (x + 1)).filter (· != k))) := by show _ = _; rw [HFS.out, bne_iff_ne.2 hyk, hq.out, lN_snoc]; rfl
              clear hyk
              go_wp2_with (first
                | (at_builtin; refine wpList_app1 rfl _ _ rfl wo.heap.size _ q rfl hoq (y : Int) rfl (by have := hql.out; have := hll.out; omega) hszq ?_; intro v6 w6 ho6 hb6)
                | go_in)
              obtain ⟨a6, c6, rfl, _⟩ := ho6.slice
              go_roundw
              case rel => exact ⟨x + 1, a6, c6, q ++ [(y : Int)], by omega, by go_num, rfl, HQ, by show _ ≤ _; have := hql.out; simp; omega, ho6, hbq.trans hb6⟩
              case measure => simp [intOf]; omega
          · have HQ : Hid (q = lN le) := by show _ = _; rw [hq.out, List.take_of_length_le (by have := HOL.out; omega), HLE.out]
            have hq5 : q.length ≤ 5 := by have := hql.out; omega
            obtain ⟨a7, c7, e7, ho7⟩ := hoq.slice
            obtain ⟨rfl, rfl⟩ : aq = a7 ∧ cq = c7 := by simpa using e7
            have ho8 := ho.below hbq (Nat.le_refl _)
            have hbw8 := hbw.trans (hbq.mono hsz)
            have HQN : Hid (le.length = q.length) := by show _ = _; rw [HQ.out, lN_len]
            obtain ⟨wq, hwq⟩ : ∃ wq, wq = wr := ⟨_, rfl⟩
            subst hwq
            have hstR := OwnRR.made wq wq.heap.size 0 hi1 (Nat.le_refl _) (.inr (by omega))
            have hbR := (Below.refl wq.heap.size wq).alloc (Nat.le_refl _) (.cells #[] 23)
            have hs8 := hs4.below hbw8 (by omega)
            have hm8 := hm4.below hbw8 (by omega)
            have hp8 := hp4.below hbw8 (by omega)
            clear hoq e7 hq hql hbq hbw ho
            go_wp2
            go_loopw [13, 14] (fun v i wr => ∃ (x : Nat) (a : Option Addr) (c : Nat) (rs : List (List Int)), x ≤ q.length ∧ i = .int .i64 x ∧ v = .slice a rs.length c ∧ Hid (rs = pk s (le.take x)) ∧ Hid (rs.length = x) ∧ OwnRR wr wq.heap.size 0 hi1 (.slice a rs.length c) rs ∧ Below wq.heap.size wq wr) (fun _ i _ => q.length - (intOf i).toNat)
            case atStart => exact ⟨0, _, _, [], Nat.zero_le _, rfl, rfl, rfl, rfl, hstR, hbR⟩
            case round =>
              clear hstR hbR
              obtain ⟨x2, ar, cr, rs, hx2, rfl, rfl, hrs, hrl, hor, hbr⟩ := hrel
              have hszr := hbr.size
              by_cases hx2l : x2 < q.length
              · obtain ⟨y, hy⟩ : ∃ y, le[x2]? = some y := ⟨_, List.getElem?_eq_getElem (by rw [HQN.out]; exact hx2l)⟩
                have hys := HLT.out y (List.mem_of_getElem? hy)
                obtain ⟨b5, o5, y5, ha5, _, _, hc5, hx5⟩ := (ho7.oi.ri.below hbr (Nat.le_refl _)).at hx2l
                have hy5 : y5 = (y : Int) := by
                  have h := hx5.out
                  rw [HQ.out, lN_at hy] at h
                  exact (Option.some.inj h).symm
                subst hy5
                have hidx := idxI ha5 hx2l cq
                obtain ⟨b6, o6, a6, c6, r, ha6, _, _, hc6, hr6, hx6, hcp6⟩ := (hs8.below hbr (by omega)).atc hys
                have hidx2 := idxII ha6 hys c1
                have HPK := Lib.hid (pk_snoc hy hx6.out)
                clear ha5 ha6 hx5 hx6 hy
                go_wp2_with (first
                  | (at_builtin; refine wpList_appR1 rfl _ _ rfl wq.heap.size 0 hi1 _ rs rfl hor hszr (by omega) r a6 r.length c6 rfl hr6 hcp6 wr.heap.size rfl rfl (by have := hrl.out; omega) ?_; intro v7 w7 hown7 hk7 _)
                  | go_in)
                have hz7 := hk7.size
                obtain ⟨a8, c8, e8, _⟩ := hown7.sliceU (Nat.zero_le _) (by omega)
                subst e8
                have hbr7 := hbr.trans (hk7.below hszr)
                have HRS : Hid (rs ++ [r] = pk s (le.take (x2 + 1))) := by show _ = _; rw [HPK.out, hrs.out]
                clear hor hk7 hbr
                go_roundw
                case rel => exact ⟨x2 + 1, a8, c8, rs ++ [r], by omega, by go_num, rfl, HRS, by show _ = _; have := hrl.out; simp; omega, hown7, hbr7⟩
                case measure => simp [intOf]; omega
              · have HRS : Hid (rs = pk s le) := by show _ = _; rw [hrs.out, List.take_of_length_le (by have := HQN.out; omega)]
                have HV : Hid (hasP (alL m rs) p = f le) := by show _ = _; rw [HRS.out, ← HF.out]; rfl
                have HRW : Hid (∀ r ∈ rs, r.length = m.length) := by
                  show ∀ r ∈ rs, _
                  intro r hr
                  rw [HRS.out] at hr
                  unfold pk at hr
                  obtain ⟨y, hy, rfl⟩ := List.mem_map.1 hr
                  have hys := HLT.out y hy
                  refine HR.out _ ?_
                  rw [List.getD, List.getElem?_eq_getElem hys]
                  exact List.getElem_mem hys
                obtain ⟨a8, c8, e8, hric⟩ := hor.sliceU (Nat.zero_le _) (by omega)
                obtain ⟨rfl, rfl⟩ : ar = a8 ∧ cr = c8 := by simpa using e8
                have hrs5 : rs.length ≤ 5 := by have := hrl.out; omega
                have hm9 := hm8.below hbr (by omega)
                have hp9 := hp8.below hbr (by omega)
                have hw49 := hbw8.size
                clear hor hrs hrl e8
                go_wp2_with fail
                refine (s_possible HOK.out hm9 (by omega) hric.rii (Nat.le_refl _) (by omega) HRW.out hp9 (by omega) HPL.out).mono ?_
                rintro e v9 ⟨rfl, b9⟩
                rw [HV.out]
                have hz9 := b9.size
                have hb9 := hbr.trans (b9.mono hszr)
                have hbw9 := hbw8.trans (hb9.mono hw49)
                have hwk : IntKind.i64.wrap ((k : Int) - 1) = (k : Int) - 1 := by rw [IntWalk.i64_in _ (by omega)]
                have hle5 : k + 1 ≤ s.length := hK
                cases hfl : f le
                · have HX2 := Lib.hid (HDP.out hfl)
                  have HQ2 : Hid (q = lN (List.range k ++ up)) := by show _ = _; rw [HQ.out, HLE2.out]
                  have HQL : Hid (q.length ≤ s.length) := by show _ ≤ _; have h := HX2.out.len; rw [HQ2.out, lN_len]; simp; omega
                  have hO9 : OIc v9 w4.heap.size v9.heap.size aq cq q := (ho7.below hb9 (Nat.le_refl _)).wide (by omega) (by omega)
                  clear hfl ho8 hric b9 hbr
                  go_wp2
                  go_roundw
                  case rel => exact ⟨k, up, aq, cq, q, by omega, rfl, rfl, HQ2, HQL, HX2, hO9, hbw9⟩
                  case measure => simp [intOf]
                · have HX2 := Lib.hid (HKP.out hfl)
                  have HL2 : Hid (l = lN (List.range k ++ (k :: up))) := by show _ = _; rw [hl.out, HOK2.out]
                  have hO9 : OIc v9 w4.heap.size v9.heap.size al cl l := (ho8.below hb9 (by omega)).wide (Nat.le_refl _) (by omega)
                  clear hfl ho8 hric b9 hbr
                  go_wp2
                  go_roundw
                  case rel => exact ⟨k, k :: up, al, cl, l, by omega, rfl, rfl, HL2, hll, HX2, hO9, hbw9⟩
                  case measure => simp [intOf]

/- Walks: slices.Concat of bans; a list of bans without one of them. -/
open Go.RowKit

theorem addrAddE (b o k : Nat) : (⟨b, o, none⟩ : Addr).add k = ⟨b, o + k, none⟩ := by unfold Addr.add; split <;> simp_all
def prtE {α : Type} (x y : List α) (k : Nat) : List α := if k = 0 then [] else if k = 1 then x else x ++ y

/-- bans that can be read at block b from place o on -/
def RBn (w : World) (lo hi b o : Nat) (ps : List (List Int)) : Prop := ps ≠ [] → lo ≤ b ∧ b < hi ∧ ∀ (j : Nat) (u : Value), (ps.flatMap csB)[j]? = some u → w.cell? ⟨b, o + j, none⟩ = some u
theorem RBn.below {w w' : World} {lo hi b o B : Nat} {ps : List (List Int)} (h : RBn w lo hi b o ps) (hb : Below B w w') (hB : hi ≤ B) : RBn w' lo hi b o ps := by
  intro h0
  obtain ⟨h1, h2, h3⟩ := h h0
  exact ⟨h1, h2, fun j u hu => (hb.cell (p := ⟨b, o + j, none⟩) (by show b < B; omega)).trans (h3 j u hu)⟩
theorem csB_len (ps : List (List Int)) : (ps.flatMap csB).length = ps.length * 10 := by
  induction ps with
  | nil => rfl
  | cons p ps ih => rw [List.flatMap_cons, List.length_append, ih, List.length_cons]; show 10 + _ = _; omega
theorem csB_one (ps : List (List Int)) : ∀ u ∈ ps.flatMap csB, u.oneCell' = true := by
  intro u hu
  obtain ⟨l, _, hu⟩ := List.mem_flatMap.1 hu
  simp [csB] at hu
  rcases hu with rfl | rfl | rfl | rfl | rfl | rfl | rfl | rfl | rfl | rfl <;> rfl
theorem undBB : Try.prog.underlying 198 = some (.slice 91) := by kernel_rfl
theorem sizeBB (w : World) : (sizeOf 91).run Try.prog w = .ok 1 w := by kernel_rfl
theorem idxBB {b k : Nat} (hk : k < 2) (wx : World) : (Instr.indexAt 198 (.slice (some ⟨b, 0, none⟩) 2 2) (.int .i64 (k : Int))).run Try.prog wx = .ok (.pointer (some ⟨b, k, none⟩)) wx := by
  have h1 := sizeBB wx
  simp [Instr.indexAt, run_underlying undBB, asIntOf, hk, Addr.add]
  try omega
theorem run_appBnN {wr : World} (ty : TypeId) (B : Nat) (v : Value) (ps : List (List Int)) (hown : OwnBn wr B v ps) (qs : List (List Int)) (lo hi b o c : Nat) (hq : RBn wr lo hi b o qs) (hl : ps.length ≤ 1048576) (hql : qs.length ≤ 1048576) (hB : B ≤ wr.heap.size) :
    ∃ v' w', (Builtin.append_ #[91, 91] ty #[v, .slice (some ⟨b, o, none⟩) qs.length c]).run Try.prog wr = .ok v' w' ∧ OwnBn w' B v' (ps ++ qs) ∧ Below B wr w' := by
  obtain ⟨i0, hi0, hz0, hz1, hz2⟩ := info_parts infoBan2
  obtain ⟨v', w', hr, g1, g2, _⟩ := run_append_own_at (P := Try.prog) wr B 91 ty 150 i0 _ 10 48 undBans hi0 hz0 hz1 hz2 rfl (by decide) v ps.length (ps.flatMap csB) hown ⟨b, o, none⟩ qs.length c (qs.flatMap csB) (csB_len qs)
    (fun j u hu => by
      have h0 : qs ≠ [] := by rintro rfl; simp at hu
      rw [addrAddE]
      exact (hq h0).2.2 j u hu)
    (csB_one qs) (by unfold maxLen; omega) (by omega) hB
  exact ⟨v', w', hr, by unfold OwnBn; rw [List.flatMap_append, List.length_append]; exact g1, (Below.refl B wr).grown g2 hB fun k hk => (hown.lt k hk).1⟩
theorem wpList_appBnN {wr : World} {ops : Array Oper} {rest : List Oper} {o' : Oper} {a : Act} {Q : Exit → Act → World → Prop} (hgd : o'.guard = none) (s t : Operand)
    (ho : o'.op = .call { callee := .builtin .append, args := #[s, t], argTypes := #[91, 91] }) (B : Nat) (v : Value) (ps : List (List Int)) (hs : a.eval s = v) (hown : OwnBn wr B v ps) (qs : List (List Int)) (lo hi b o c : Nat)
    (hx : a.eval t = .slice (some ⟨b, o, none⟩) qs.length c) (hq : RBn wr lo hi b o qs) (hl : ps.length ≤ 1048576) (hql : qs.length ≤ 1048576) (hB : B ≤ wr.heap.size)
    (h : ∀ v' w', OwnBn w' B v' (ps ++ qs) → Below B wr w' → wpList Try.prog ops Q rest (a.put o'.dst v') w') : wpList Try.prog ops Q (o' :: rest) a wr := by
  obtain ⟨v', w', hr, h1, h2⟩ := run_appBnN o'.type B v ps hown qs lo hi b o c hq hl hql hB
  exact Lib.wpList_append_run _ hgd _ _ _ _ ho _ _ hs hx _ _ hr (h v' w' h1 h2)

theorem run_growBn {n : Nat} (h0 : 0 < n) (hn : n ≤ 1048576) (ty : TypeId) (w : World) : ∃ (G : Nat) (cs : Array Value), n ≤ G ∧ G ≤ maxLen ∧ cs.size = G * 10 ∧ (Builtin.append_ #[91, 3] ty #[.slice none 0 0, .int .i64 (n : Int)]).run Try.prog w = .ok (.slice (some ⟨w.heap.size, 0, none⟩) n G) (w.drew.alloc (.cells cs 150)) := by
  obtain ⟨i0, hi, hz0, hz1, hz2⟩ := info_parts infoBan2
  have h := Lib.run_append_grow_zeros (P := Try.prog) w 91 3 ty 150 i0 _ .i64 .i64 undBans undInt hi hz0 none 0 0 [] (run_firstCells_none _ _ _ _ _) n h0 (by omega) (by omega) (by omega) (by rw [hz2]; omega) (by rw [hz2]; exact growslice_fits (by omega) (by omega))
  rw [Nat.zero_add] at h
  have hge := grownCap_ge w n 0 150
  refine ⟨_, _, hge, grownCap_le_maxLen w n 0 _ (by unfold maxLen; omega), ?_, h⟩
  simp [Builtin.zeroCells, Value.cells]
  omega

set_option maxRecDepth 100000 in
set_option maxHeartbeats 2000000 in
theorem x_GrowBn {n : Nat} {w : World} (hn : n ≤ 1048576) :
    Calls Try.prog 253 #[.slice none 0 0, .int .i64 (n : Int)] w (fun e w' => ∃ a c, e = .returned (.slice a 0 c) ∧ OwnBn w' w.heap.size (.slice a 0 c) [] ∧ Below w.heap.size w w') := by
  by_cases h0 : n = 0
  · subst h0
    go_enter Try.func253, Try.ntmps253
    go_wp2
    go_ret
    exact ⟨none, 0, rfl, OwnBn.nil _ _, Below.refl _ _⟩
  have hpos : 0 < (n : Int) := by omega
  obtain ⟨G, cs, hG, hG2, hcs, hrz⟩ := run_growBn (by omega) hn 91 w
  have hG3 : G ≤ 9223372036854775807 := by unfold maxLen at hG2; omega
  have HO : Hid (OwnBn (w.drew.alloc (.cells cs 150)) w.heap.size (.slice (some ⟨w.heap.size, 0, none⟩) 0 G) []) :=
    World.ownsRow_made w.drew cs G (Nat.le_refl w.heap.size) hG2 hcs
  have HB : Hid (Below w.heap.size w (w.drew.alloc (.cells cs 150))) := ((Below.refl w.heap.size w).drew).alloc (Nat.le_refl w.heap.size) _
  clear hcs hG2
  go_enter Try.func253, Try.ntmps253
  go_wp2_with (at_builtin; refine Lib.wpList_append_run _ rfl _ _ _ _ rfl _ _ rfl rfl _ _ hrz ?_)
  go_ret
  exact ⟨_, _, rfl, HO.out, HB.out⟩

set_option maxRecDepth 100000 in
set_option maxHeartbeats 4000000 in
theorem x_ConcatBn {b n1 n2 c1 c2 lo hi : Nat} {b1 o1 b2 o2 : Nat} {mm1 mm2 : List (List Int)} {w : World} (e1 : w.cell? ⟨b, 0, none⟩ = some (.slice (some ⟨b1, o1, none⟩) n1 c1)) (e2 : w.cell? ⟨b, 1, none⟩ = some (.slice (some ⟨b2, o2, none⟩) n2 c2)) (hb : b < w.heap.size) (hn1 : n1 = mm1.length) (hn2 : n2 = mm2.length)
    (h1 : RBn w lo hi b1 o1 mm1) (h2 : RBn w lo hi b2 o2 mm2) (hhi : hi ≤ w.heap.size) (hl1 : n1 ≤ 500000) (hl2 : n2 ≤ 500000) :
    Calls Try.prog 246 #[.slice (some ⟨b, 0, none⟩) 2 2] w (fun e w' => ∃ v, e = .returned v ∧ OwnBn w' w.heap.size v (mm1 ++ mm2) ∧ Below w.heap.size w w') := by
  subst hn1 hn2
  have hi0 : ∀ wx : World, (Instr.indexAt 198 (.slice (some ⟨b, 0, none⟩) 2 2) (.int .i64 0)).run Try.prog wx = .ok (.pointer (some ⟨b, 0, none⟩)) wx := fun wx => idxBB (k := 0) (by omega) wx
  have hi1 : ∀ wx : World, (Instr.indexAt 198 (.slice (some ⟨b, 0, none⟩) 2 2) (.int .i64 1)).run Try.prog wx = .ok (.pointer (some ⟨b, 1, none⟩)) wx := fun wx => idxBB (k := 1) (by omega) wx
  go_enter Try.func246, Try.ntmps246
  go_wp2
  go_loop [3, 11] (fun v i => (i = .int .i64 0 ∧ v = .int .i64 0) ∨ (i = .int .i64 1 ∧ v = .int .i64 (mm1.length : Int)) ∨ (i = .int .i64 2 ∧ v = .int .i64 ((mm1.length + mm2.length : Nat) : Int))) (fun _ i => 2 - (intOf i).toNat)
  case atStart => exact .inl ⟨rfl, rfl⟩
  case round =>
    rcases hrel with ⟨rfl, rfl⟩ | ⟨rfl, rfl⟩ | ⟨rfl, rfl⟩
    · go_wp2
      go_round
      case rel => exact .inr (.inl ⟨rfl, rfl⟩)
      case measure => simp [intOf]
    · go_wp2
      go_round
      case rel => exact .inr (.inr ⟨rfl, by go_num⟩)
      case measure => simp [intOf]
    · obtain ⟨N, hN⟩ : ∃ N, mm1.length + mm2.length = N := ⟨_, rfl⟩
      have hNl : N ≤ 1048576 := by omega
      rw [hN]
      clear hN
      go_wp2_with fail
      refine (x_GrowBn hNl).mono ?_
      rintro e w1 ⟨a1, c1', rfl, hst, hb1⟩
      have hs1 := hb1.size
      have f1 := h1.below hb1 hhi
      have f2 := h2.below hb1 hhi
      have g1 := (hb1.cell (p := ⟨b, 0, none⟩) hb).trans e1
      have g2 := (hb1.cell (p := ⟨b, 1, none⟩) hb).trans e2
      clear e1 e2 h1 h2
      go_wp2
      go_loopw [6, 27] (fun v i wr => OwnBn wr w.heap.size v (prtE mm1 mm2 (intOf i).toNat) ∧ Below w.heap.size w wr ∧ RBn wr lo hi b1 o1 mm1 ∧ RBn wr lo hi b2 o2 mm2 ∧ wr.cell? ⟨b, 0, none⟩ = some (.slice (some ⟨b1, o1, none⟩) mm1.length c1) ∧ wr.cell? ⟨b, 1, none⟩ = some (.slice (some ⟨b2, o2, none⟩) mm2.length c2) ∧ (i = .int .i64 0 ∨ i = .int .i64 1 ∨ i = .int .i64 2)) (fun _ i _ => 2 - (intOf i).toNat)
      case atStart => exact ⟨by simpa [prtE, intOf] using hst, hb1, f1, f2, g1, g2, .inl rfl⟩
      case round =>
        clear hst f1 f2 g1 g2
        obtain ⟨hown, hK, f1, f2, g1, g2, hi'⟩ := hrel
        have hsz := hK.size
        rcases hi' with rfl | rfl | rfl
        · have hown0 : OwnBn wr w.heap.size _ [] := hown
          have HP : Hid (prtE mm1 mm2 1 = mm1) := by simp [Hid, prtE]
          clear hown
          go_wp2_with (first
            | (at_builtin; refine wpList_appBnN rfl _ _ rfl w.heap.size _ [] rfl hown0 mm1 lo hi b1 o1 c1 rfl f1 (by simp) (by omega) (by omega) ?_; intro v2 w2 hown2 hk2)
            | go_in)
          have HO : Hid (OwnBn w2 w.heap.size v2 (prtE mm1 mm2 1)) := by show OwnBn _ _ _ _; rw [HP.out]; exact hown2
          have hK2 := hK.trans hk2
          have f1' := f1.below hk2 hhi
          have f2' := f2.below hk2 hhi
          have g1' := (hk2.cell (p := ⟨b, 0, none⟩) hb).trans g1
          have g2' := (hk2.cell (p := ⟨b, 1, none⟩) hb).trans g2
          clear hown2 hk2 hK hown0
          go_roundw
          case rel => exact ⟨HO.out, hK2, f1', f2', g1', g2', .inr (.inl rfl)⟩
          case measure => simp [intOf]
        · have hown0 : OwnBn wr w.heap.size _ mm1 := hown
          have HP : Hid (prtE mm1 mm2 2 = mm1 ++ mm2) := by simp [Hid, prtE]
          clear hown
          go_wp2_with (first
            | (at_builtin; refine wpList_appBnN rfl _ _ rfl w.heap.size _ mm1 rfl hown0 mm2 lo hi b2 o2 c2 rfl f2 (by omega) (by omega) (by omega) ?_; intro v2 w2 hown2 hk2)
            | go_in)
          have HO : Hid (OwnBn w2 w.heap.size v2 (prtE mm1 mm2 2)) := by show OwnBn _ _ _ _; rw [HP.out]; exact hown2
          have hK2 := hK.trans hk2
          have f1' := f1.below hk2 hhi
          have f2' := f2.below hk2 hhi
          have g1' := (hk2.cell (p := ⟨b, 0, none⟩) hb).trans g1
          have g2' := (hk2.cell (p := ⟨b, 1, none⟩) hb).trans g2
          clear hown2 hk2 hK hown0
          go_roundw
          case rel => exact ⟨HO.out, hK2, f1', f2', g1', g2', .inr (.inr rfl)⟩
          case measure => simp [intOf]
        · have hown0 : OwnBn wr w.heap.size _ (mm1 ++ mm2) := hown
          obtain ⟨a5, c5, rfl, h5⟩ := hown0.slice
          go_wp2
          go_ret
          exact ⟨_, rfl, h5, hK⟩

theorem elemBs : Program.elem Try.prog 91 = 150 := by kernel_rfl
theorem undBsE : Try.prog.underlying 91 = some (.slice (Program.elem Try.prog 91)) := by kernel_rfl
theorem cutToB {b o n c k : Nat} {z : Int} (hz : z = (k : Int)) (hk : k ≤ c) (wx : World) : (Instr.slice 91 (.slice (some ⟨b, o, none⟩) n c) none (some (.int .i64 z)) none).run Try.prog wx = .ok (.slice (some ⟨b, o, none⟩) k c) wx := by
  subst hz
  rw [run_slice_h (P := Try.prog) (w := wx) 91 (some ⟨b, o, none⟩) n c undBsE .i64 (k : Int) (by omega) (by omega)]
  have hs := sizeBan wx
  rw [elemBs]
  simp [hs, Result.andThen, sliced, Addr.add]
theorem cutFromB {b o n c k : Nat} {z : Int} (hz : z = (k : Int)) (hk : k ≤ n) (hn : n ≤ c) : ∃ o', (k < n → o' = o + k * 10) ∧ ∀ wx : World, (Instr.slice 91 (.slice (some ⟨b, o, none⟩) n c) (some (.int .i64 z)) none none).run Try.prog wx = .ok (.slice (some ⟨b, o', none⟩) (n - k) (c - k)) wx := by
  subst hz
  refine ⟨if c = k then o else o + k * 10, fun h => by rw [if_neg (by omega)], fun wx => ?_⟩
  rw [run_slice_l (P := Try.prog) (w := wx) 91 (some ⟨b, o, none⟩) n c undBsE .i64 (k : Int) (by omega) (by omega)]
  have hs := sizeBan wx
  rw [elemBs]
  simp only [hs, Result.andThen, sliced, Int.toNat_natCast, Option.map_some, addrAddE]
  split <;> rfl
theorem csB_take (ps : List (List Int)) (k : Nat) : (ps.take k).flatMap csB = (ps.flatMap csB).take (k * 10) := by
  induction ps generalizing k with
  | nil => simp
  | cons p ps ih =>
    cases k with
    | zero => simp
    | succ k =>
      have hc : (csB p).length = 10 := rfl
      rw [List.take_succ_cons, List.flatMap_cons, List.flatMap_cons, ih, List.take_append, hc, List.take_of_length_le (l := csB p) (by rw [hc]; omega), show (k + 1) * 10 - 10 = k * 10 by omega]
theorem csB_drop (ps : List (List Int)) (k : Nat) : (ps.drop k).flatMap csB = (ps.flatMap csB).drop (k * 10) := by
  induction ps generalizing k with
  | nil => simp
  | cons p ps ih =>
    cases k with
    | zero => simp
    | succ k =>
      have hc : (csB p).length = 10 := rfl
      rw [List.drop_succ_cons, List.flatMap_cons, ih, List.drop_append, hc, List.drop_of_length_le (l := csB p) (by rw [hc]; omega), show (k + 1) * 10 - 10 = k * 10 by omega, List.nil_append]
theorem RBn.take {w : World} {lo hi b o : Nat} {ps : List (List Int)} (h : RBn w lo hi b o ps) (k : Nat) : RBn w lo hi b o (ps.take k) := by
  intro h0
  obtain ⟨h1, h2, h3⟩ := h (by rintro rfl; simp at h0)
  refine ⟨h1, h2, fun j u hu => h3 j u ?_⟩
  rw [csB_take, List.getElem?_take] at hu
  split at hu
  · exact hu
  · cases hu
theorem RBn.drop {w : World} {lo hi b o o' : Nat} {ps : List (List Int)} (h : RBn w lo hi b o ps) {k : Nat} (ho : k < ps.length → o' = o + k * 10) : RBn w lo hi b o' (ps.drop k) := by
  intro h0
  have hk : k < ps.length := by
    apply Classical.byContradiction
    intro hn
    exact h0 (List.drop_of_length_le (by omega))
  obtain ⟨h1, h2, h3⟩ := h (by rintro rfl; simp at hk)
  refine ⟨h1, h2, fun j u hu => ?_⟩
  rw [csB_drop, List.getElem?_drop] at hu
  rw [ho hk, Nat.add_assoc]
  exact h3 _ u hu
theorem OwnBn.rd {w : World} {B : Nat} {v : Value} {ps : List (List Int)} (h : OwnBn w B v ps) (h0 : ps ≠ []) : ∃ g c, v = .slice (some ⟨g, 0, none⟩) ps.length c ∧ ps.length ≤ c ∧ RBn w B w.heap.size g 0 ps := by
  have hlt := h.lt
  rcases h.2 with ⟨_, h1⟩ | ⟨g, cap, cur, rfl, hb, hg, hn, hm, hs, ht⟩
  · exact absurd (List.eq_nil_of_length_eq_zero h1) h0
  · refine ⟨g, cap, rfl, by omega, fun _ => ⟨hb, (hlt g rfl).2, fun j u hu => ?_⟩⟩
    rw [cell_of_row w g _ cur _ (0, 0) hg, Nat.zero_add]
    rw [← ht, List.getElem?_take] at hu
    split at hu
    · simpa using hu
    · cases hu

set_option maxRecDepth 100000 in
set_option maxHeartbeats 2000000 in
theorem i_withoutBn {s : List (List Int)} {b o c lo hi k : Nat} {w : World} (hs : RBn w lo hi b o s) (hB : hi ≤ w.heap.size) (hsl : s.length ≤ 100000) (hc : s.length ≤ c) (hk : k < s.length) :
    Calls Try.prog 197 #[.slice (some ⟨b, o, none⟩) s.length c, .int .i64 (k : Int)] w (fun e w' => ∃ v, e = .returned v ∧ OwnBn w' w.heap.size v (s.eraseIdx k) ∧ Below w.heap.size w w') := by
  have hto := cutToB (b := b) (o := o) (n := s.length) (c := c) (k := k) (z := (k : Int)) rfl (by omega)
  obtain ⟨o', ho', hfrom⟩ := cutFromB (b := b) (o := o) (n := s.length) (c := c) (k := k + 1) (z := IntKind.i64.wrap ((k : Int) + 1)) (by rw [IntWalk.i64_in _ (by omega)]; omega) (by omega) hc
  have hbA := (Below.refl _ w).alloc (Nat.le_refl w.heap.size) (.cells #[.slice (some ⟨b, o, none⟩) k c, .slice (some ⟨b, o', none⟩) (s.length - (k + 1)) (c - (k + 1))] 91)
  have hs1 := hs.below hbA hB
  have HE : Hid (s.eraseIdx k = s.take k ++ s.drop (k + 1)) := List.eraseIdx_eq_take_drop_succ ..
  have hn := heap_alloc_new w (.cells #[.slice (some ⟨b, o, none⟩) k c, .slice (some ⟨b, o', none⟩) (s.length - (k + 1)) (c - (k + 1))] 91)
  obtain ⟨W, hW⟩ : ∃ W, w.alloc (.cells #[.slice (some ⟨b, o, none⟩) k c, .slice (some ⟨b, o', none⟩) (s.length - (k + 1)) (c - (k + 1))] 91) = W := ⟨_, rfl⟩
  have e1 : W.cell? ⟨w.heap.size, 0, none⟩ = some (.slice (some ⟨b, o, none⟩) k c) := by rw [← hW, cell_of_row _ w.heap.size 0 _ 91 (0, 0) hn]; rfl
  have e2 : W.cell? ⟨w.heap.size, 1, none⟩ = some (.slice (some ⟨b, o', none⟩) (s.length - (k + 1)) (c - (k + 1))) := by rw [← hW, cell_of_row _ w.heap.size 1 _ 91 (0, 0) hn]; rfl
  have hWs : w.heap.size < W.heap.size := by rw [← hW]; simp
  rw [hW] at hbA hs1
  have f1 := hs1.take k
  have f2 := hs1.drop ho'
  have hcat := (x_ConcatBn (w := W.drew) e1 e2 hWs (by simp; omega) (by simp) f1 f2 (by show hi ≤ W.heap.size; omega) (by omega) (by omega))
  obtain ⟨l, hl⟩ : ∃ l, s.eraseIdx k = l := ⟨_, rfl⟩
  rw [← HE.out, hl] at hcat
  rw [hl]
  have HCAT := Lib.hid hcat
  clear hcat hl HE
  clear hn f1 f2 hs1 e1 e2 hs ho'
  go_enter Try.func197, Try.ntmps197
  go_wp2_with fail
  go_region_with ((go_at_call 246; refine HCAT.out.mono ?_; rintro e w1 ⟨v1, rfl, h1, hb1⟩))
  have hsW : w.heap.size ≤ W.heap.size := by omega
  have hbb : Below w.heap.size w w1 := hbA.trans (((Below.refl _ W).drew).trans (hb1.mono hsW))
  clear hb1 hbA HCAT
  go_wp2
  go_ret
  exact ⟨_, rfl, h1.wide hsW, hbb⟩

/- Walks: ExplainBans of the program. -/
open Go.RowKit

theorem ownL_ltE {w : World} {B : Nat} {v : Value} {l : List Int} (h : OwnL w B v l) : ∀ g, v.ownBlock = some g → B ≤ g ∧ g < w.heap.size := World.ownsRow.lt h
theorem ownL_keptE {w w' : World} {B : Nat} {v : Value} {l : List Int} (h : OwnL w B v l) (hb : ∀ k, k < w.heap.size → v.ownBlock = some k → w'.heap[k]? = w.heap[k]?) : OwnL w' B v l := by
  have hlt := ownL_ltE h
  obtain ⟨h1, h2⟩ := h
  refine ⟨h1, ?_⟩
  rcases h2 with h2 | ⟨g, cap, cur, rfl, hB, hg, rest⟩
  · exact .inl h2
  · exact .inr ⟨g, cap, cur, rfl, hB, by rw [hb g (hlt g rfl).2 rfl]; exact hg, rest⟩

theorem wpList_app1g {wr : World} {ops : Array Oper} {rest : List Oper} {o : Oper} {a : Act} {Q : Exit → Act → World → Prop} (hgd : o.guard = none) (s t : Operand)
    (ho : o.op = .call { callee := .builtin .append, args := #[s, t], argTypes := #[23, 23] }) (B : Nat) (v : Value) (l : List Int) (hs : a.eval s = v) (hown : OwnL wr B v l) (x : Int)
    (hx : a.eval t = .slice (some ⟨wr.heap.size, 0, none⟩) 1 1) (hl : l.length ≤ 1099511627776) (hB : B ≤ wr.heap.size)
    (h : ∀ v' w', OwnL w' B v' (l ++ [x]) → GrP wr w' v v' → wpList Try.prog ops Q rest (a.put o.dst v') w') : wpList Try.prog ops Q (o :: rest) a (wr.alloc (.cells #[.int .i64 x] 3)) := by
  obtain ⟨i0, hi, hz0, hz1, hz2⟩ := info_parts infoInt
  obtain ⟨v', w', hr, g1, g2, g3, g4⟩ := run_append_own_at (P := Try.prog) (wr.alloc (.cells #[.int .i64 x] 3)) B 23 o.type 3 i0 (.int .i64 0) 1 8 undI hi hz0 hz1 hz2 rfl (by decide) v l.length (ints l) (World.ownsRow.alloc hown _) ⟨wr.heap.size, 0, none⟩ 1 1 [.int .i64 x] rfl (cell_one_new _ _ _) (by intro u hu; simp at hu; subst hu; rfl) (by unfold maxLen; omega) (by omega) (by simp; omega)
  refine Lib.wpList_append_run _ hgd _ _ _ _ ho _ _ hs hx _ _ hr (h v' w' ?_ ⟨(World.grownBy_alloc wr _ _).trans g2, ?_⟩)
  · unfold OwnL; rw [List.length_append]; simpa [ints] using g1
  · rcases g4 with g4 | g4
    · exact .inl g4
    · exact .inr ⟨_, g4, by simp, ((World.ownsRow.lt g1) _ g4).2⟩
theorem x_ReverseNil {w : World} : Calls Try.prog 198 #[.slice none 0 0] w (fun e w' => e = .returned (.tuple #[]) ∧ w' = w) := by
  go_enter Try.func198, Try.ntmps198
  go_wp2
  go_loopw [2, 3] (fun i j wr => i = .int .i64 0 ∧ j = .int .i64 (-1) ∧ wr = w) (fun _ _ _ => 0)
  case atStart => exact ⟨rfl, by go_num, rfl⟩
  case round =>
    obtain ⟨rfl, rfl, rfl⟩ := hrel
    go_wp2
    go_end0
    exact ⟨rfl, rfl⟩
theorem pk_len (s : List (List Int)) (l : List Nat) : (pk s l).length = l.length := by simp [pk]
theorem pk_erase {s : List (List Int)} {k : Nat} {up : List Nat} : (pk s (List.range (k + 1) ++ up)).eraseIdx k = pk s (List.range k ++ up) := by
  unfold pk
  rw [List.range_succ, List.append_assoc, List.map_append, List.map_append, List.eraseIdx_append_of_length_le (by simp)]
  simp
theorem pk_ok {m : List Int} {s : List (List Int)} {l : List Nat} (h : okBn m s = true) (hl : l.length ≤ 5) (hx : ∀ x ∈ l, x < s.length) : okBn m (pk s l) = true := by
  unfold okBn
  rw [Bool.and_eq_true, List.all_eq_true]
  refine ⟨fun r hr => ?_, by rw [pk_len]; exact decide_eq_true hl⟩
  unfold pk at hr
  obtain ⟨x, hxl, rfl⟩ := List.mem_map.1 hr
  have hxs := hx x hxl
  refine okBn_all h ?_
  rw [List.getD, List.getElem?_eq_getElem hxs]
  exact List.getElem_mem hxs
theorem pk_all (s : List (List Int)) : pk s (List.range s.length ++ []) = s := by
  rw [List.append_nil]
  unfold pk
  apply List.ext_getElem?
  intro i
  by_cases hi : i < s.length
  · simp [hi, List.getD]
  · rw [List.getElem?_eq_none (by simp; omega), List.getElem?_eq_none (by omega)]

set_option maxRecDepth 100000 in
set_option maxHeartbeats 8000000 in
theorem i_ExplainBans {m : List Int} {s : List (List Int)} {p : List Int} {a a1 a3 : Option Addr} {c c1 c3 lo hi lo1 hi1 lo3 hi3 : Nat} {w : World} (hm : RI w lo hi a m) (hlm : m.length ≤ 9223372036854775807) (hs : RII w lo1 hi1 a1 s) (hls : s.length ≤ 9223372036854775807) (hg : ∀ r ∈ s, r.length ≤ 9223372036854775807) (hp : RI w lo3 hi3 a3 p) (hlp : p.length ≤ 9223372036854775807) (hB : hi ≤ w.heap.size) (hB1 : hi1 ≤ w.heap.size) (hB3 : hi3 ≤ w.heap.size) :
    Calls Try.prog 86 #[.slice a m.length c, .slice a1 s.length c1, .slice a3 p.length c3] w (NewIB w (exL m s p) (exB m s p)) := by
  have HG := Lib.hid hg; clear hg
  cases hce : (okM m && okBn m s && okP m p)
  · have HCE := Lib.hid hce; clear hce
    have HN : Hid (exL m s p = [] ∧ exB m s p = false) := by have h := exB_no HCE.out; exact ⟨ex_no h, h⟩
    go_enter Try.func86, Try.ntmps86
    go_wp2_with fail
    refine (i_canExplain hm hlm hs hls HG.out hp hlp).mono ?_
    rintro e w1 ⟨rfl, d1⟩
    rw [HCE.out]
    go_wp2
    go_ret2
    exact GotNB.none HN.out (Dr.below d1 _)
  have HCE := Lib.hid hce
  simp only [Bool.and_eq_true] at hce
  have HOK := Lib.hid hce.1.1
  have HOB := Lib.hid hce.1.2
  have HOP := Lib.hid hce.2
  clear hce
  have hm5 := okM_len HOK.out
  have hsl := okBn_len HOB.out
  have HR := Lib.hid (bn_rows HOB.out)
  have HPL := Lib.hid (okW_len HOP.out)
  go_enter Try.func86, Try.ntmps86
  go_wp2_with fail
  refine (i_canExplain hm hlm hs hls HG.out hp hlp).mono ?_
  rintro e w1 ⟨rfl, d1⟩
  rw [HCE.out]
  have Z1 := Dr.le d1
  go_wp2_with fail
  refine (i_rulesOf m.length (hs.dr d1) (by omega) hsl (fun r hr => by have := HR.out r hr; omega)).mono ?_
  rintro e w2 ⟨v0, rfl, ho2, hb2⟩
  obtain ⟨ga, gc, hv0, ho2⟩ := ho2.slice
  subst hv0
  have z2 := hb2.size
  have hlt2 := ho2.lt
  have hA := heap_alloc_new w2 (.cells #[.slice a m.length c, .slice ga s.length gc] 93)
  have hbA := (Below.refl w2.heap.size w2).alloc (Nat.le_refl _) (.cells #[.slice a m.length c, .slice ga s.length gc] 93)
  have hm2 := (hm.dr d1).below hb2 (by omega)
  have hp2 := (hp.dr d1).below hb2 (by omega)
  have hbw2 := (Dr.below d1 w.heap.size).trans (hb2.mono Z1.2)
  obtain ⟨W, hW⟩ : ∃ W, w2.alloc (.cells #[.slice a m.length c, .slice ga s.length gc] 93) = W := ⟨_, rfl⟩
  have hWs : W.heap.size = w2.heap.size + 1 := by rw [← hW]; simp
  rw [hW] at hA hbA
  have HAW := Lib.hid hA
  have hm2' := Lib.hid hm2
  have hp2' := Lib.hid hp2
  have hmW := hm2.below hbA (by omega)
  have hpW := hp2.below hbA (by omega)
  have hbW := hbw2.trans (hbA.mono (by omega))
  have HS : Hid (∀ w', Below W.heap.size W w' → w'.cell? ⟨w2.heap.size, 0, none⟩ = some (.slice a m.length c) ∧ w'.cell? ⟨w2.heap.size, 1, none⟩ = some (.slice ga s.length gc)) := fun w' hb => by
    have h := (hb.block w2.heap.size (by omega)).trans HAW.out
    rw [cell_of_row _ _ 0 _ _ _ h, cell_of_row _ _ 1 _ _ _ h]; exact ⟨rfl, rfl⟩
  have HPF : Hid (∀ w', Below W.heap.size W w' → Calls Try.prog 133 #[.slice a3 p.length c3] w' (NewV w' (.agg #[.int .i64 (at5 p 0), .int .i64 (at5 p 1), .int .i64 (at5 p 2), .int .i64 (at5 p 3), .int .i64 (at5 p 4)]))) := fun w' hb => i_patternOf (hpW.below hb (by omega)) (by have := hb.size; omega) (by have := HPL.out; omega)
  have HIP : Hid (∀ w', Below W.heap.size W w' → Calls Try.prog 132 #[.agg #[.slice a m.length c, .slice ga s.length gc], .agg #[.int .i64 (at5 p 0), .int .i64 (at5 p 1), .int .i64 (at5 p 2), .int .i64 (at5 p 3), .int .i64 (at5 p 4)]] w' (NewV w' (.bool (hasP (alL m s) p)))) := fun w' hb => i_isPossible (hmW.below hb (by omega)) (by have := hb.size; omega) ho2 (hbA.trans (hb.mono (by omega))) HOK.out HOB.out HOP.out
  obtain ⟨X, hX⟩ : ∃ X, hasP (alL m s) p = X := ⟨_, rfl⟩
  have HX := Lib.hid hX
  rw [hX] at HIP
  have hWl : w2.heap.size + 1 ≤ W.heap.size ∧ W.heap.size ≤ w2.heap.size + 1 := by omega
  clear hX hm2 hp2 hA hWs
  go_wp2_with fail
  try rw [hW]
  clear hW
  refine wp_region_new (by rfl) (by kernel_rfl) ?_
  (refine wpQuiet_step (fun K hK => ?_); go_simp; refine ⟨.agg #[.slice a m.length c, .slice ga s.length gc], fun wq hq => ?_, hK _ ?_⟩; (obtain ⟨s0, s1⟩ := HS.out wq hq; simp [s0, s1, Result.andThen]); clear hK K)
  (refine wpQuiet_step (fun K hK => ?_); go_simp; first | refine hK _ ?_ | refine ⟨_, fun _ _ => rfl, hK _ ?_⟩; clear hK K)
  (refine wpQuiet_step (fun K hK => ?_); go_simp; refine ⟨.agg #[.int .i64 (at5 p 0), .int .i64 (at5 p 1), .int .i64 (at5 p 2), .int .i64 (at5 p 3), .int .i64 (at5 p 4)], fun wq hq => (HPF.out wq hq).mono ?_, hK _ ?_⟩; (rintro e wr ⟨rfl, hbr⟩; exact ⟨rfl, hq.trans (hbr.mono hq.size)⟩); clear hK K)
  (refine wpQuiet_step (fun K hK => ?_); go_simp; refine ⟨.bool X, fun wq hq => (HIP.out wq hq).mono ?_, hK _ ?_⟩; (rintro e wr ⟨rfl, hbr⟩; exact ⟨rfl, hq.trans (hbr.mono hq.size)⟩); clear hK K)
  refine wpQuiet_nil ?_
  intro w6 hb6
  have z6 := hb6.size
  have hb06 := hbW.trans (hb6.mono (by have := hbW.size; omega))
  cases X
  case true =>
    have HN : Hid (exL m s p = [] ∧ exB m s p = false) := by have h : exB m s p = false := by { rw [exB_mk HOK.out HOB.out HOP.out, HX.out]; rfl }; exact ⟨ex_no h, h⟩
    go_wp2
    go_ret2
    exact GotNB.none HN.out hb06
  have HEB : Hid (exB m s p = true) := by show _ = _; rw [exB_mk HOK.out HOB.out HOP.out, HX.out]; rfl
  have HEL : Hid (exL m s p = lN (exG (exF m s p) s.length [])) := ex_yes HEB.out
  have HX0 := Lib.hid (ExS.start (exF m s p) s.length)
  obtain ⟨f, hf⟩ : ∃ f, exF m s p = f := ⟨_, rfl⟩
  have HF := Lib.hid hf
  rw [hf] at HX0 HEL
  obtain ⟨L, hL⟩ : ∃ L, w2.heap.size = L := ⟨_, rfl⟩
  have ho6 := ho2.below ((hbA.trans (hb6.mono (by omega))).mono (Nat.le_refl _))
  have HROW := Lib.hid ((hb6.block w2.heap.size (by omega)).trans HAW.out)
  have hb26 := hbA.trans (hb6.mono (by omega))
  have HGN : Hid (∀ g, (Value.slice ga s.length gc).ownBlock = some g → g ≠ L) := fun g hg => by have := (hlt2 g hg).2; omega
  have hz6L : L + 1 ≤ w6.heap.size := by omega
  rw [hL] at HROW hb26
  have hz12 : w1.heap.size ≤ L := by omega
  have hz2L : w2.heap.size ≤ L ∧ L ≤ w2.heap.size := by omega
  have hmL := hm2'.out
  have hpL := hp2'.out
  have HLS : Hid (s = pk s (List.range s.length ++ [])) := (pk_all s).symm
  have hwn : IntKind.i64.wrap ((s.length : Int) - 1) = (s.length : Int) - 1 := by rw [IntWalk.i64_in _ (by omega)]
  have hnd0 : OwnL w6 (L + 1) (.slice none 0 0) [] := OwnL.nil _ _
  clear HS HPF HIP hb6 hmW hpW hbW hf
  rw [hL]
  go_wp2
  go_loopw [9, 10, 11] (fun v k _ wr => ∃ (K : Nat) (up : List Nat) (ls : List (List Int)) (la : Option Addr) (lc : Nat) (nd : List Int) (an : Option Addr) (cn : Nat), K ≤ s.length ∧ k = .int .i64 ((K : Int) - 1) ∧ v = .slice an nd.length cn ∧ Hid (nd = lN up.reverse) ∧ Hid (nd.length ≤ 5) ∧ Hid (nd = [] → an = none ∧ cn = 0) ∧ OwnL wr (L + 1) (.slice an nd.length cn) nd ∧ Hid (ExS f s.length K up) ∧ Hid (ls = pk s (List.range K ++ up)) ∧ OwnBn wr w1.heap.size (.slice la ls.length lc) ls ∧ Hid (∀ g, (Value.slice la ls.length lc).ownBlock = some g → g ≠ L) ∧ Hid (∀ g, (Value.slice la ls.length lc).ownBlock = some g → (Value.slice an nd.length cn).ownBlock ≠ some g) ∧ Hid (wr.heap[L]? = some (.cells #[.slice a m.length c, .slice la ls.length lc] 93 (0, 0))) ∧ Below L w2 wr ∧ L + 1 ≤ wr.heap.size) (fun _ k _ _ => (intOf k + 1).toNat)
  case atStart => exact ⟨s.length, [], s, ga, gc, [], none, 0, Nat.le_refl _, rfl, rfl, rfl, by show _ ≤ _; simp, fun _ => ⟨rfl, rfl⟩, hnd0, HX0, HLS, ho6, HGN, (by show ∀ g, _; intro g _ h; cases h), HROW, hb26, hz6L⟩
  case round =>
    clear ho6 HGN HROW hb26 hz6L HLS hnd0 HX0
    obtain ⟨K, up, ls, la, lc, nd, an, cn, hK, rfl, rfl, hnd, hnl, hnn, hon, hX, hls, hol, hgn, hdis, HROW, hbw, hsz⟩ := hrel
    have hc0 : wr.cell? ⟨L, 0, none⟩ = some (.slice a m.length c) := by rw [cell_of_row _ _ 0 _ _ _ HROW.out]; rfl
    have hc1 : wr.cell? ⟨L, 1, none⟩ = some (.slice la ls.length lc) := by rw [cell_of_row _ _ 1 _ _ _ HROW.out]; rfl
    have hf0 := frozen5 HROW.out 0
    have hf1 := frozen5 HROW.out 1
    by_cases hK0 : K = 0
    · subst hK0
      have hd : decide ((0 : Int) ≤ ((0 : Nat) : Int) - 1) = false := rfl
      have HUP : Hid (lN up = exL m s p) := by show _ = _; rw [HEL.out, ← hX.out.fin]
      have hzw : w.heap.size ≤ L := by have := hbw2.size; omega
      have hBw := hbw2.trans (hbw.mono hzw)
      have hz2w := hbw.size
      by_cases hn0 : nd = []
      · obtain ⟨rfl, rfl⟩ := hnn.out hn0
        have HE0 : Hid (exL m s p = []) := by
          show _ = _
          rw [← HUP.out]
          have h := hnd.out
          rw [hn0] at h
          have h2 : (lN up.reverse).length = 0 := by rw [← h]; rfl
          rw [lN_len, List.length_reverse] at h2
          rw [List.eq_nil_of_length_eq_zero h2]; rfl
        subst hn0
        go_wp2_with fail
        refine x_ReverseNil.mono ?_
        rintro e w9 ⟨rfl, rfl⟩
        go_wp2
        go_ret2
        rw [HE0.out]
        exact ⟨_, _, by rw [HEB.out]; rfl, fun k hk => absurd hk (by simp), hBw⟩
      · obtain ⟨a5, c5, e5, ho5⟩ := hon.slice
        obtain ⟨rfl, rfl⟩ : an = a5 ∧ cn = c5 := by simpa using e5
        obtain ⟨b5, o5, e6, _⟩ := ho5.oi 0 (List.length_pos_iff.2 hn0)
        subst e6
        have HRV : Hid (nd.reverse = exL m s p) := by show _ = _; rw [hnd.out, ← HUP.out]; simp [lN]
        have HRL : Hid (nd.length = (exL m s p).length) := by show _ = _; rw [← HRV.out, List.length_reverse]
        clear e5
        go_wp2_with fail
        refine (x_ReverseI ho5.oi (by have := hnl.out; omega) (Nat.le_refl _)).mono ?_
        rintro e w9 ⟨rfl, h9, hu9, hs9⟩
        rw [HRV.out] at h9
        have hB9 := hBw.trans ((Upd.below hu9).mono (by omega))
        have hO9 := h9.wide (show w.heap.size ≤ L + 1 by omega) (show wr.heap.size ≤ w9.heap.size by omega)
        go_wp2
        go_ret2
        rw [HRL.out]
        exact ⟨_, _, by rw [HEB.out]; rfl, hO9, hB9⟩
    obtain ⟨k, rfl⟩ : ∃ k, K = k + 1 := ⟨K - 1, by omega⟩
    have hke : (((k + 1 : Nat) : Int) - 1) = (k : Int) := by omega
    rw [hke]
    have hd : decide ((0 : Int) ≤ (k : Int)) = true := decide_eq_true (by omega)
    have HLL : Hid (k < ls.length) := by show _ < _; rw [hls.out, pk_len]; simp; omega
    have hls5 : Hid (ls.length ≤ 5) := by show _ ≤ _; rw [hls.out, pk_len]; have := hX.out.len; simp; omega
    obtain ⟨g, gc2, e2, hcap, hR⟩ := hol.rd (by intro e; have h := HLL.out; rw [e] at h; simp at h)
    obtain ⟨rfl, rfl⟩ : la = some ⟨g, 0, none⟩ ∧ lc = gc2 := by simpa using e2
    clear e2 hke
    go_wp2_with fail
    refine (i_withoutBn hR (Nat.le_refl _) (by have := hls5.out; omega) hcap HLL.out).mono ?_
    rintro e v1 ⟨vf, rfl, hof, hbf⟩
    obtain ⟨le, hle⟩ : ∃ le, ls.eraseIdx k = le := ⟨_, rfl⟩
    have HLE : Hid (le = pk s (List.range k ++ up)) := by show _ = _; rw [← hle, hls.out]; exact pk_erase
    rw [hle] at hof
    obtain ⟨gf, gfc, e, hof⟩ := hof.slice
    subst e
    clear hle
    have hz1 := hbf.size
    have HEE : Hid (exF m s p (List.range k ++ up) = hasP (alL m le) p) := by show _ = _; rw [HLE.out]; rfl
    have HOBL : Hid (okBn m le = true) := by
      show _ = _
      rw [HLE.out]
      have hl := hX.out.len
      refine pk_ok HOB.out (by simp; omega) fun x hx => ?_
      rcases List.mem_append.1 hx with hx | hx
      · have := List.mem_range.1 hx; omega
      · exact (hX.out.up x hx).2
    have HVA := Lib.hid (heap_alloc_new v1 (.cells #[.slice a m.length c, .slice gf le.length gfc] 93))
    have hbV := (Below.refl v1.heap.size v1).alloc (Nat.le_refl _) (.cells #[.slice a m.length c, .slice gf le.length gfc] 93)
    obtain ⟨V, hV⟩ : ∃ V, v1.alloc (.cells #[.slice a m.length c, .slice gf le.length gfc] 93) = V := ⟨_, rfl⟩
    have hVs : V.heap.size = v1.heap.size + 1 := by rw [← hV]; simp
    rw [hV] at HVA hbV
    have hVl : v1.heap.size + 1 ≤ V.heap.size ∧ V.heap.size ≤ v1.heap.size + 1 := by omega
    have hb2V := hbw.trans ((hbf.mono (by omega)).trans (hbV.mono (by omega)))
    have hrV := hbf.trans (hbV.mono hz1)
    have HS2 : Hid (∀ w', Below V.heap.size V w' → w'.cell? ⟨v1.heap.size, 0, none⟩ = some (.slice a m.length c) ∧ w'.cell? ⟨v1.heap.size, 1, none⟩ = some (.slice gf le.length gfc)) := fun w' hb => by
      have h := (hb.block v1.heap.size (by omega)).trans HVA.out
      rw [cell_of_row _ _ 0 _ _ _ h, cell_of_row _ _ 1 _ _ _ h]; exact ⟨rfl, rfl⟩
    have hmV := hmL.below hb2V (by omega)
    have hpV := hpL.below hb2V (by omega)
    have HPF : Hid (∀ w', Below V.heap.size V w' → Calls Try.prog 133 #[.slice a3 p.length c3] w' (NewV w' (.agg #[.int .i64 (at5 p 0), .int .i64 (at5 p 1), .int .i64 (at5 p 2), .int .i64 (at5 p 3), .int .i64 (at5 p 4)]))) := fun w' hb => i_patternOf (hpV.below hb (by omega)) (by have := hb.size; omega) (by have := HPL.out; omega)
    have HIP : Hid (∀ w', Below V.heap.size V w' → Calls Try.prog 132 #[.agg #[.slice a m.length c, .slice gf le.length gfc], .agg #[.int .i64 (at5 p 0), .int .i64 (at5 p 1), .int .i64 (at5 p 2), .int .i64 (at5 p 3), .int .i64 (at5 p 4)]] w' (NewV w' (.bool (hasP (alL m le) p)))) := fun w' hb => i_isPossible (hmV.below hb (by omega)) (by have := hb.size; omega) hof (hbV.trans (hb.mono (by omega))) HOK.out HOBL.out HOP.out
    obtain ⟨X, hX2⟩ : ∃ X, hasP (alL m le) p = X := ⟨_, rfl⟩
    have HFX : Hid (f (List.range k ++ up) = X) := by show _ = _; rw [← HF.out, HEE.out, hX2]
    rw [hX2] at HIP
    have hlV : L < v1.heap.size := by omega
    clear hX2 hVs hmV hpV
    go_wp2_with fail
    try rw [hV]
    clear hV
    refine wp_region_new (by rfl) (by kernel_rfl) ?_
    (refine wpQuiet_step (fun K hK => ?_); go_simp; refine ⟨.agg #[.slice a m.length c, .slice gf le.length gfc], fun wq hq => ?_, hK _ ?_⟩; (obtain ⟨s0, s1⟩ := HS2.out wq hq; simp [s0, s1, Result.andThen]); clear hK K)
    (refine wpQuiet_step (fun K hK => ?_); go_simp; first | refine hK _ ?_ | refine ⟨_, fun _ _ => rfl, hK _ ?_⟩; clear hK K)
    (refine wpQuiet_step (fun K hK => ?_); go_simp; refine ⟨.agg #[.int .i64 (at5 p 0), .int .i64 (at5 p 1), .int .i64 (at5 p 2), .int .i64 (at5 p 3), .int .i64 (at5 p 4)], fun wq hq => (HPF.out wq hq).mono ?_, hK _ ?_⟩; (rintro e wr ⟨rfl, hbr⟩; exact ⟨rfl, hq.trans (hbr.mono hq.size)⟩); clear hK K)
    (refine wpQuiet_step (fun K hK => ?_); go_simp; refine ⟨.bool X, fun wq hq => (HIP.out wq hq).mono ?_, hK _ ?_⟩; (rintro e wr ⟨rfl, hbr⟩; exact ⟨rfl, hq.trans (hbr.mono hq.size)⟩); clear hK K)
    refine wpQuiet_nil ?_
    intro w7 hb7
    have z7 := hb7.size
    have hr7 := hrV.trans (hb7.mono (by omega))
    have hwk : IntKind.i64.wrap ((k : Int) - 1) = (k : Int) - 1 := by rw [IntWalk.i64_in _ (by omega)]
    have hcl7 := HS2.out w7 hb7
    have HROW7 := Lib.hid ((hr7.block L (by omega)).trans HROW.out)
    have hf0' := frozen5 HROW7.out 0
    have hf1' := frozen5 HROW7.out 1
    have hcA : w7.cell? ⟨L, 0, none⟩ = some (.slice a m.length c) := by rw [cell_of_row _ _ 0 _ _ _ HROW7.out]; rfl
    have hcB : w7.cell? ⟨L, 1, none⟩ = some (.slice (some ⟨g, 0, none⟩) ls.length lc) := by rw [cell_of_row _ _ 1 _ _ _ HROW7.out]; rfl
    have hondL := ownL_ltE hon
    have holt := hol.lt
    have hon7 := hon.below hr7
    have hb27 := hbw.trans (hr7.mono (by omega))
    clear HS2 HPF HIP hrV hb2V hc0 hc1 hf0 hf1 hon hbw
    cases X
    · have HX3 := Lib.hid (hX.out.drop HFX.out)
      have hof7 : OwnBn w7 wr.heap.size (.slice gf le.length gfc) le := hof.below (hbV.trans (hb7.mono (by omega)))
      have hofl := hof.lt
      have hz7L : L + 1 ≤ w7.heap.size := by omega
      obtain ⟨q0, q1⟩ := hcl7
      clear hol
      go_wp2
      have HR8 : Hid (((w7.setCell ⟨L, 0, none⟩ (.slice a m.length c)).setCell ⟨L, 1, none⟩ (.slice gf le.length gfc)).heap[L]? = some (.cells #[.slice a m.length c, .slice gf le.length gfc] 93 (0, 0))) := by
        show _ = _
        simp only [World.setCell, Array.getElem?_modify, if_true]
        rw [HROW7.out]; rfl
      have hst : ∀ j, j ≠ L → ((w7.setCell ⟨L, 0, none⟩ (.slice a m.length c)).setCell ⟨L, 1, none⟩ (.slice gf le.length gfc)).heap[j]? = w7.heap[j]? := fun j hj => by
        rw [Below.heap_setCell _ _ _ _ (by simpa using fun e => hj e), Below.heap_setCell _ _ _ _ (by simpa using fun e => hj e)]
      go_roundw
      case rel => exact ⟨k, up, le, gf, gfc, nd, an, cn, by omega, by go_num, rfl, hnd, hnl, hnn, ownL_keptE hon7 (fun j _ hj => hst j (by have := (hondL j hj).1; omega)), HX3, HLE, (hof7.kept fun j hj hjo => hst j (by have := (hof7.lt j hjo).1; omega)).wide (by omega), fun g hg => by have := (hofl g hg).1; omega, fun g hg h => by { have h1 := (hofl g hg).1; have h2 := (hondL g h).2; omega }, HR8, ⟨hb27.os, hb27.tape, hb27.output, by simp [World.setCell]; exact hb27.size, fun j hj => (hst j (by omega)).trans (hb27.block j hj)⟩, by simp [World.setCell]; omega⟩
      case measure => simp [intOf]
    · have HX3 := Lib.hid (hX.out.keep HFX.out)
      have hol7 := hol.below hr7
      have HLS3 : Hid (ls = pk s (List.range k ++ (k :: up))) := by show _ = _; rw [hls.out, out_keep]
      have HND3 : Hid (nd ++ [(k : Int)] = lN (k :: up).reverse) := by show _ = _; rw [hnd.out, lN_snoc, List.reverse_cons]
      have HNL3 : Hid ((nd ++ [(k : Int)]).length ≤ 5) := by show _ ≤ _; rw [HND3.out, lN_len, List.length_reverse]; have := HX3.out.len; omega
      have hz7L : L + 1 ≤ w7.heap.size := by omega
      have hol7l := hol7.lt
      clear hol hof
      go_wp2_with (first
        | (at_builtin; refine wpList_app1g rfl _ _ rfl (L + 1) _ nd rfl hon7 (k : Int) rfl (by have := hnl.out; omega) hz7L ?_; intro v8 w8 ho8 hg8)
        | go_in)
      obtain ⟨a8, c8, rfl, _⟩ := ho8.slice
      have hz8 := hg8.gr.size
      have HDIS : Hid (∀ g', (Value.slice (some ⟨g, 0, none⟩) ls.length lc).ownBlock = some g' → (Value.slice a8 (nd ++ [(k : Int)]).length c8).ownBlock ≠ some g') := by
        show ∀ g', _ → _
        intro g' hg' h
        rcases hg8.at_ with h1 | ⟨x, h1, h2, _⟩
        · exact hdis.out g' hg' (h1.symm.trans h)
        · have e := Option.some.inj (h1.symm.trans h)
          have := (hol7l g' hg').2
          omega
      have hb8 : Below (L + 1) w7 w8 := hg8.below (fun g hg => (hondL g hg).1) hz7L
      go_roundw
      case rel => exact ⟨k, k :: up, ls, some ⟨g, 0, none⟩, lc, nd ++ [(k : Int)], a8, c8, by omega, by go_num, rfl, HND3, HNL3, by show _ → _; simp, ho8, HX3, HLS3, hol7.kept (fun j hj hjo => hg8.gr.block j hj (fun e => hdis.out j hjo e.symm)), hgn, HDIS, Lib.hid ((hb8.block L (by omega)).trans HROW7.out), hb27.trans (hb8.mono (by omega)), by omega⟩
      case measure => simp [intOf]

end Go.Proofs.Ytehoagbpgahopaa
