/- Walks: ExplainBans of the specification. -/
import Derived.Test.YtbdbfbobcdepgaaZj
import Derived.Test.YtbdbfbobcdepgaaZn
import Derived.Test.YtbdbfbobcdepgaaOc
namespace Go.Proofs.Ytbdbfbobcdepgaa
open Go.RowKit

def lN (l : List Nat) : List Int := l.map fun (i : Nat) => (i : Int)
theorem lN_len (l : List Nat) : (lN l).length = l.length := by simp [lN]
theorem lN_snoc (l : List Nat) (x : Nat) : lN l ++ [(x : Int)] = lN (l ++ [x]) := by simp [lN]
theorem lN_at {l : List Nat} {i x : Nat} (h : l[i]? = some x) : (lN l)[i]? = some (x : Int) := by simp [lN, h]
theorem out_less {k : Nat} {hi : List Nat} (h : ∀ x ∈ hi, k < x) : (List.range (k + 1) ++ hi).filter (· != k) = List.range k ++ hi := by
  rw [List.range_succ, List.filter_append, List.filter_append]
  have h1 : (List.range k).filter (· != k) = List.range k := List.filter_eq_self.2 fun x hx => by
    have := List.mem_range.1 hx
    rw [bne_iff_ne]; omega
  have h2 : hi.filter (· != k) = hi := List.filter_eq_self.2 fun x hx => by
    have := h x hx
    rw [bne_iff_ne]; omega
  rw [h1, h2]; simp
theorem out_keep (k : Nat) (hi : List Nat) : List.range (k + 1) ++ hi = List.range k ++ (k :: hi) := by rw [List.range_succ]; simp

/-- how far ExplainBans is when K bans are left to look at -/
structure ExS (f : List Nat → Bool) (n K : Nat) (hi : List Nat) : Prop where
  val : exG f K hi = exG f n []
  up : ∀ x ∈ hi, K ≤ x ∧ x < n
  len : hi.length + K ≤ n
theorem ExS.start (f : List Nat → Bool) (n : Nat) : ExS f n n [] := ⟨rfl, by simp, by simp⟩
theorem ExS.keep {f : List Nat → Bool} {n k : Nat} {hi : List Nat} (h : ExS f n (k + 1) hi) (hf : f (List.range k ++ hi) = true) : ExS f n k (k :: hi) := by
  have hl := h.len
  refine ⟨by rw [← h.val]; simp only [exG]; rw [hf]; rfl, fun x hx => ?_, by simp; omega⟩
  rcases List.mem_cons.1 hx with rfl | hx
  · omega
  · have := h.up x hx; omega
theorem ExS.drop {f : List Nat → Bool} {n k : Nat} {hi : List Nat} (h : ExS f n (k + 1) hi) (hf : f (List.range k ++ hi) = false) : ExS f n k hi := by
  have hl := h.len
  refine ⟨by rw [← h.val]; simp only [exG]; rw [hf]; rfl, fun x hx => ?_, by omega⟩
  have := h.up x hx; omega
theorem ExS.fin {f : List Nat → Bool} {n : Nat} {hi : List Nat} (h : ExS f n 0 hi) : hi = exG f n [] := by rw [← h.val]; rfl
theorem pk_snoc {b : List (List Int)} {l : List Nat} {i x : Nat} {r : List Int} (h : l[i]? = some x) (hr : b[x]? = some r) : pk b (l.take (i + 1)) = pk b (l.take i) ++ [r] := by
  unfold pk
  rw [List.take_add_one, h]
  simp [List.getD, hr]
theorem fil_snoc {l : List Nat} {i x k : Nat} (h : l[i]? = some x) : (l.take (i + 1)).filter (· != k) = (l.take i).filter (· != k) ++ if x != k then [x] else [] := by
  rw [List.take_add_one, h, List.filter_append]
  cases hx : x != k <;> simp [hx]

theorem GotNB.none {w w' : World} {l : List Int} {b : Bool} (h : l = [] ∧ b = false) (hb : Below w.heap.size w w') : NewIB w l b (.returned (.tuple #[.slice none 0 0, .bool false])) w' := by
  obtain ⟨rfl, rfl⟩ := h
  exact ⟨Option.none, 0, rfl, fun k hk => absurd hk (by simp), hb⟩

set_option maxRecDepth 100000 in
set_option maxHeartbeats 8000000 in
theorem s_ExplainBans {m : List Int} {s : List (List Int)} {p : List Int} {a a1 a3 : Option Addr} {c c1 c3 lo hi lo1 hi1 lo3 hi3 : Nat} {w : World} (hm : RI w lo hi a m) (hlm : m.length ≤ 9223372036854775807) (hs0 : RII w lo1 hi1 a1 s) (hls : s.length ≤ 9223372036854775807) (hg : ∀ r ∈ s, r.length ≤ 9223372036854775807) (hp : RI w lo3 hi3 a3 p) (hlp : p.length ≤ 9223372036854775807) (hB : hi ≤ w.heap.size) (hB1 : hi1 ≤ w.heap.size) (hB3 : hi3 ≤ w.heap.size) :
    Calls Try.prog 37 #[.slice a m.length c, .slice a1 s.length c1, .slice a3 p.length c3] w (NewIB w (exL m s p) (exB m s p)) := by
  have HG := Lib.hid hg; clear hg
  have hs : RII w 0 hi1 a1 s := hs0.wide (Nat.zero_le _) (Nat.le_refl _)
  clear hs0
  cases hok : okM m
  · have HOK := Lib.hid hok; clear hok
    have HN : Hid (exL m s p = [] ∧ exB m s p = false) := by have h := exB_no (m := m) (b := s) (p := p) (by rw [HOK.out]; rfl); exact ⟨ex_no h, h⟩
    go_enter Try.func37, Try.ntmps37
    go_wp2_with fail
    refine (s_validModel hm hlm).mono ?_
    rintro e w1 ⟨rfl, d1⟩
    rw [HOK.out]
    go_wp2
    go_ret2
    exact GotNB.none HN.out (Dr.below d1 _)
  have HOK := Lib.hid hok; clear hok
  cases hob : okBn m s
  · have HOB := Lib.hid hob; clear hob
    have HN : Hid (exL m s p = [] ∧ exB m s p = false) := by have h := exB_no (m := m) (b := s) (p := p) (by rw [HOB.out]; simp); exact ⟨ex_no h, h⟩
    go_enter Try.func37, Try.ntmps37
    go_wp2_with fail
    refine (s_validModel hm hlm).mono ?_
    rintro e w1 ⟨rfl, d1⟩
    rw [HOK.out]
    go_wp2_with fail
    refine (s_validBans (hm.dr d1) (hs.dr d1) HOK.out hls HG.out).mono ?_
    rintro e w2 ⟨rfl, d2⟩
    rw [HOB.out]
    go_wp2
    go_ret2
    exact GotNB.none HN.out (Dr.below (Dr.trans d1 d2) _)
  have HOB := Lib.hid hob; clear hob
  cases hop : okP m p
  · have HOP := Lib.hid hop; clear hop
    have HN : Hid (exL m s p = [] ∧ exB m s p = false) := by have h := exB_no (m := m) (b := s) (p := p) (by rw [HOP.out]; simp); exact ⟨ex_no h, h⟩
    go_enter Try.func37, Try.ntmps37
    go_wp2_with fail
    refine (s_validModel hm hlm).mono ?_
    rintro e w1 ⟨rfl, d1⟩
    rw [HOK.out]
    go_wp2_with fail
    refine (s_validBans (hm.dr d1) (hs.dr d1) HOK.out hls HG.out).mono ?_
    rintro e w2 ⟨rfl, d2⟩
    rw [HOB.out]
    have D2 := Dr.trans d1 d2
    go_wp2_with fail
    refine (s_validPattern (hm.dr D2) (hp.dr D2) HOK.out hlp).mono ?_
    rintro e w3 ⟨rfl, d3⟩
    rw [HOP.out]
    go_wp2
    go_ret2
    exact GotNB.none HN.out (Dr.below (Dr.trans D2 d3) _)
  have HOP := Lib.hid hop; clear hop
  have hm5 := okM_len HOK.out
  have HPL := Lib.hid (okW_len HOP.out)
  have hsl := okBn_len HOB.out
  have HR := Lib.hid (bn_rows HOB.out)
  cases hps : hasP (alL m s) p
  case true =>
    have HPS := Lib.hid hps; clear hps
    have HN : Hid (exL m s p = [] ∧ exB m s p = false) := by have h : exB m s p = false := by { rw [exB_mk HOK.out HOB.out HOP.out, HPS.out]; rfl }; exact ⟨ex_no h, h⟩
    go_enter Try.func37, Try.ntmps37
    go_wp2_with fail
    refine (s_validModel hm hlm).mono ?_
    rintro e w1 ⟨rfl, d1⟩
    rw [HOK.out]
    go_wp2_with fail
    refine (s_validBans (hm.dr d1) (hs.dr d1) HOK.out hls HG.out).mono ?_
    rintro e w2 ⟨rfl, d2⟩
    rw [HOB.out]
    have D2 := Dr.trans d1 d2
    go_wp2_with fail
    refine (s_validPattern (hm.dr D2) (hp.dr D2) HOK.out hlp).mono ?_
    rintro e w3 ⟨rfl, d3⟩
    rw [HOP.out]
    have D3 := Dr.trans D2 d3
    have Z3 := Dr.le D3
    go_wp2_with fail
    refine (s_possible HOK.out (hm.dr D3) (by omega) (hs.dr D3) (by omega) (by omega) HR.out (hp.dr D3) (by omega) HPL.out).mono ?_
    rintro e w4 ⟨rfl, b4⟩
    rw [HPS.out]
    go_wp2
    go_ret2
    exact GotNB.none HN.out ((Dr.below D3 _).trans (b4.mono Z3.2))
  have HPS := Lib.hid hps; clear hps
  have HEB : Hid (exB m s p = true) := by show _ = _; rw [exB_mk HOK.out HOB.out HOP.out, HPS.out]; rfl
  have HEL : Hid (exL m s p = lN (exG (exF m s p) s.length [])) := ex_yes HEB.out
  have HX0 := Lib.hid (ExS.start (exF m s p) s.length)
  go_enter Try.func37, Try.ntmps37
  go_wp2_with fail
  refine (s_validModel hm hlm).mono ?_
  rintro e w1 ⟨rfl, d1⟩
  rw [HOK.out]
  go_wp2_with fail
  refine (s_validBans (hm.dr d1) (hs.dr d1) HOK.out hls HG.out).mono ?_
  rintro e w2 ⟨rfl, d2⟩
  rw [HOB.out]
  have D2 := Dr.trans d1 d2
  go_wp2_with fail
  refine (s_validPattern (hm.dr D2) (hp.dr D2) HOK.out hlp).mono ?_
  rintro e w3 ⟨rfl, d3⟩
  rw [HOP.out]
  have D3 := Dr.trans D2 d3
  have Z3 := Dr.le D3
  go_wp2_with fail
  refine (s_possible HOK.out (hm.dr D3) (by omega) (hs.dr D3) (by omega) (by omega) HR.out (hp.dr D3) (by omega) HPL.out).mono ?_
  rintro e w4 ⟨rfl, b4⟩
  rw [HPS.out]
  have z4 := b4.size
  have hm4 := (hm.dr D3).below b4 (by omega)
  have hs4 := (hs.dr D3).below b4 (by omega)
  have hp4 := (hp.dr D3).below b4 (by omega)
  have B4 := (Dr.below D3 w.heap.size).trans (b4.mono Z3.2)
  have Z4 : w.heap.size ≤ w4.heap.size := by omega
  have hst := OwnL.made w4 w4.heap.size (Nat.le_refl _)
  have hbA := (Below.refl w4.heap.size w4).alloc (Nat.le_refl _) (.cells #[] 3)
  obtain ⟨f, hf⟩ : ∃ f, exF m s p = f := ⟨_, rfl⟩
  have HF := Lib.hid hf
  rw [hf] at HX0 HEL
  clear hm hs hp d1 d2 d3 D2 D3 b4 hf Z3 z4
  go_wp2
  go_loopw [8, 9] (fun v i wr => ∃ (j : Nat) (a : Option Addr) (c : Nat) (l : List Int), j ≤ s.length ∧ i = .int .i64 j ∧ v = .slice a l.length c ∧ Hid (l = lN (List.range j)) ∧ Hid (l.length = j) ∧ OwnL wr w4.heap.size (.slice a l.length c) l ∧ Below w4.heap.size w4 wr) (fun _ i _ => s.length - (intOf i).toNat)
  case atStart => exact ⟨0, _, _, [], Nat.zero_le _, rfl, rfl, rfl, rfl, hst, hbA⟩
  case round =>
    clear hst hbA
    obtain ⟨j, al, cl, l, hj, rfl, rfl, hl, hll, ho, hbw⟩ := hrel
    have hsz := hbw.size
    by_cases hlt : j < s.length
    · go_wp2_with (first
        | (at_builtin; refine wpList_app1 rfl _ _ rfl w4.heap.size _ l rfl ho (j : Int) rfl (by have := hll.out; omega) hsz ?_; intro v6 w6 ho6 hb6)
        | go_in)
      obtain ⟨a6, c6, rfl, _⟩ := ho6.slice
      go_roundw
      case rel => exact ⟨j + 1, a6, c6, l ++ [(j : Int)], by omega, by go_num, rfl, by show _ = _; rw [hl.out, lN_snoc, ← List.range_succ], by show _ = _; have := hll.out; simp; omega, ho6, hbw.trans hb6⟩
      case measure => simp [intOf]; omega
    · have hjn : j = s.length := by omega
      obtain ⟨a7, c7, e7, ho7⟩ := ho.slice
      obtain ⟨rfl, rfl⟩ : al = a7 ∧ cl = c7 := by simpa using e7
      have HL0 : Hid (l = lN (List.range s.length ++ [])) := by show _ = _; rw [hl.out, hjn, List.append_nil]
      have HLL0 : Hid (l.length ≤ s.length) := by show _ ≤ _; have := hll.out; omega
      have hwn : IntKind.i64.wrap ((s.length : Int) - 1) = (s.length : Int) - 1 := by rw [IntWalk.i64_in _ (by omega)]
      obtain ⟨wo, hwo⟩ : ∃ wo, wo = wr := ⟨_, rfl⟩
      subst hwo
      clear ho e7 hl hll hjn
      go_wp2
      go_loopw [8, 10, 11, 12, 13, 14] (fun v k _ _ _ _ wr => ∃ (K : Nat) (up : List Nat) (a : Option Addr) (c : Nat) (l : List Int), K ≤ s.length ∧ k = .int .i64 ((K : Int) - 1) ∧ v = .slice a l.length c ∧ Hid (l = lN (List.range K ++ up)) ∧ Hid (l.length ≤ s.length) ∧ Hid (ExS f s.length K up) ∧ OIc wr w4.heap.size wr.heap.size a c l ∧ Below w4.heap.size w4 wr) (fun _ k _ _ _ _ _ => (intOf k + 1).toNat)
      case atStart => exact ⟨s.length, [], al, cl, l, Nat.le_refl _, rfl, rfl, HL0, HLL0, HX0, ho7, hbw⟩
      case round =>
        clear ho7 hbw HL0 HLL0 HX0 hsz
        obtain ⟨K, up, al, cl, l, hK, rfl, rfl, hl, hll, hX, ho, hbw⟩ := hrel
        have hsz := hbw.size
        by_cases hK0 : K = 0
        · subst hK0
          have hd : decide ((0 : Int) ≤ ((0 : Nat) : Int) - 1) = false := rfl
          have HE : Hid (l = exL m s p) := by show _ = _; rw [hl.out, HEL.out, ← hX.out.fin]; rfl
          have hB := B4.trans (hbw.mono Z4)
          have hO := ho.oi.wide Z4 (Nat.le_refl _)
          go_wp2
          go_ret2
          rw [HE.out] at hO ⊢
          exact ⟨_, _, by rw [HEB.out]; rfl, hO, hB⟩
        obtain ⟨k, rfl⟩ : ∃ k, K = k + 1 := ⟨K - 1, by omega⟩
        have hke : (((k + 1 : Nat) : Int) - 1) = (k : Int) := by omega
        rw [hke]
        have hd : decide ((0 : Int) ≤ (k : Int)) = true := decide_eq_true (by omega)
        obtain ⟨O, hO⟩ : ∃ O, List.range (k + 1) ++ up = O := ⟨_, rfl⟩
        obtain ⟨le, hle⟩ : ∃ le, List.range k ++ up = le := ⟨_, rfl⟩
        have HLE : Hid (O.filter (· != k) = le) := by show _ = _; rw [← hO, ← hle]; exact out_less fun x hx => by have := hX.out.up x hx; omega
        rw [hO] at hl
        have hl5 : l.length ≤ 5 := by have := hll.out; omega
        have HOL : Hid (O.length = l.length) := by show _ = _; rw [hl.out, lN_len]
        have HLT : Hid (∀ x ∈ le, x < s.length) := by
          show ∀ x ∈ le, _
          intro x hx
          rw [← hle] at hx
          rcases List.mem_append.1 hx with hx | hx
          · have := List.mem_range.1 hx; omega
          · exact (hX.out.up x hx).2
        have HKP : Hid (f le = true → ExS f s.length k (k :: up)) := fun h => hX.out.keep (by rw [hle]; exact h)
        have HDP : Hid (f le = false → ExS f s.length k up) := fun h => hX.out.drop (by rw [hle]; exact h)
        have HOK2 : Hid (O = List.range k ++ (k :: up)) := by show _ = _; rw [← hO]; exact out_keep k up
        have HLE2 : Hid (le = List.range k ++ up) := hle.symm
        obtain ⟨wo, hwo⟩ : ∃ wo, wo = wr := ⟨_, rfl⟩
        subst hwo
        have hstL := OwnL.made wo wo.heap.size (Nat.le_refl _)
        have hbL := (Below.refl wo.heap.size wo).alloc (Nat.le_refl _) (.cells #[] 3)
        clear hO hle hke hX hK0
        go_wp2
        go_loopw [11, 12] (fun v i wr => ∃ (x : Nat) (a : Option Addr) (c : Nat) (q : List Int), x ≤ l.length ∧ i = .int .i64 x ∧ v = .slice a q.length c ∧ Hid (q = lN ((O.take x).filter (· != k))) ∧ Hid (q.length ≤ x) ∧ OwnL wr wo.heap.size (.slice a q.length c) q ∧ Below wo.heap.size wo wr) (fun _ i _ => l.length - (intOf i).toNat)
        case atStart => exact ⟨0, _, _, [], Nat.zero_le _, rfl, rfl, rfl, Nat.le_refl _, hstL, hbL⟩
        case round =>
          clear hstL hbL
          obtain ⟨x, aq, cq, q, hx, rfl, rfl, hq, hql, hoq, hbq⟩ := hrel
          have hszq := hbq.size
          by_cases hxl : x < l.length
          · obtain ⟨y, hy⟩ : ∃ y, O[x]? = some y := ⟨_, List.getElem?_eq_getElem (by rw [HOL.out]; exact hxl)⟩
            obtain ⟨b5, o5, y5, ha5, _, _, hc5, hx5⟩ := (ho.oi.ri.below hbq (Nat.le_refl _)).at hxl
            have hy5 : y5 = (y : Int) := by
              have h := hx5.out
              rw [hl.out, lN_at hy] at h
              exact (Option.some.inj h).symm
            subst hy5
            have hidx := idxI ha5 hxl cl
            have HFS := Lib.hid (fil_snoc (k := k) hy)
            clear ha5 hx5 hy
            by_cases hyk : y = k
            · have hne : ((y : Int) != (k : Int)) = false := by rw [hyk]; exact bne_self_eq_false _
              have HQ : Hid (q = lN ((O.take (x + 1)).filter (· != k))) := by show _ = _; rw [HFS.out, hyk, bne_self_eq_false, hq.out]; simp
              clear hyk
              go_wp2
              go_roundw
              case rel => exact ⟨x + 1, aq, cq, q, by omega, by go_num, rfl, HQ, by show _ ≤ _; have := hql.out; omega, hoq, hbq⟩
              case measure => simp [intOf]; omega
            · have hne : ((y : Int) != (k : Int)) = true := by rw [bne_iff_ne]; intro e; exact hyk (by exact_mod_cast e)
              have HQ : Hid (q ++ [(y : Int)] = lN ((O.take (x + 1)).filter (· != k))) := by show _ = _; rw [HFS.out, bne_iff_ne.2 hyk, hq.out, lN_snoc]; rfl
              clear hyk
              go_wp2_with (first
                | (at_builtin; refine wpList_app1 rfl _ _ rfl wo.heap.size _ q rfl hoq (y : Int) rfl (by have := hql.out; have := hll.out; omega) hszq ?_; intro v6 w6 ho6 hb6)
                | go_in)
              obtain ⟨a6, c6, rfl, _⟩ := ho6.slice
              go_roundw
              case rel => exact ⟨x + 1, a6, c6, q ++ [(y : Int)], by omega, by go_num, rfl, HQ, by show _ ≤ _; have := hql.out; simp; omega, ho6, hbq.trans hb6⟩
              case measure => simp [intOf]; omega
          · have HQ : Hid (q = lN le) := by show _ = _; rw [hq.out, List.take_of_length_le (by have := HOL.out; omega), HLE.out]
            have hq5 : q.length ≤ 5 := by have := hql.out; omega
            obtain ⟨a7, c7, e7, ho7⟩ := hoq.slice
            obtain ⟨rfl, rfl⟩ : aq = a7 ∧ cq = c7 := by simpa using e7
            have ho8 := ho.below hbq (Nat.le_refl _)
            have hbw8 := hbw.trans (hbq.mono hsz)
            have HQN : Hid (le.length = q.length) := by show _ = _; rw [HQ.out, lN_len]
            obtain ⟨wq, hwq⟩ : ∃ wq, wq = wr := ⟨_, rfl⟩
            subst hwq
            have hstR := OwnRR.made wq wq.heap.size 0 hi1 (Nat.le_refl _) (.inr (by omega))
            have hbR := (Below.refl wq.heap.size wq).alloc (Nat.le_refl _) (.cells #[] 22)
            have hs8 := hs4.below hbw8 (by omega)
            have hm8 := hm4.below hbw8 (by omega)
            have hp8 := hp4.below hbw8 (by omega)
            clear hoq e7 hq hql hbq hbw ho
            go_wp2
            go_loopw [13, 14] (fun v i wr => ∃ (x : Nat) (a : Option Addr) (c : Nat) (rs : List (List Int)), x ≤ q.length ∧ i = .int .i64 x ∧ v = .slice a rs.length c ∧ Hid (rs = pk s (le.take x)) ∧ Hid (rs.length = x) ∧ OwnRR wr wq.heap.size 0 hi1 (.slice a rs.length c) rs ∧ Below wq.heap.size wq wr) (fun _ i _ => q.length - (intOf i).toNat)
            case atStart => exact ⟨0, _, _, [], Nat.zero_le _, rfl, rfl, rfl, rfl, hstR, hbR⟩
            case round =>
              clear hstR hbR
              obtain ⟨x2, ar, cr, rs, hx2, rfl, rfl, hrs, hrl, hor, hbr⟩ := hrel
              have hszr := hbr.size
              by_cases hx2l : x2 < q.length
              · obtain ⟨y, hy⟩ : ∃ y, le[x2]? = some y := ⟨_, List.getElem?_eq_getElem (by rw [HQN.out]; exact hx2l)⟩
                have hys := HLT.out y (List.mem_of_getElem? hy)
                obtain ⟨b5, o5, y5, ha5, _, _, hc5, hx5⟩ := (ho7.oi.ri.below hbr (Nat.le_refl _)).at hx2l
                have hy5 : y5 = (y : Int) := by
                  have h := hx5.out
                  rw [HQ.out, lN_at hy] at h
                  exact (Option.some.inj h).symm
                subst hy5
                have hidx := idxI ha5 hx2l cq
                obtain ⟨b6, o6, a6, c6, r, ha6, _, _, hc6, hr6, hx6, hcp6⟩ := (hs8.below hbr (by omega)).atc hys
                have hidx2 := idxII ha6 hys c1
                have HPK := Lib.hid (pk_snoc hy hx6.out)
                clear ha5 ha6 hx5 hx6 hy
                go_wp2_with (first
                  | (at_builtin; refine wpList_appR1 rfl _ _ rfl wq.heap.size 0 hi1 _ rs rfl hor hszr (by omega) r a6 r.length c6 rfl hr6 hcp6 wr.heap.size rfl rfl (by have := hrl.out; omega) ?_; intro v7 w7 hown7 hk7 _)
                  | go_in)
                have hz7 := hk7.size
                obtain ⟨a8, c8, e8, _⟩ := hown7.sliceU (Nat.zero_le _) (by omega)
                subst e8
                have hbr7 := hbr.trans (hk7.below hszr)
                have HRS : Hid (rs ++ [r] = pk s (le.take (x2 + 1))) := by show _ = _; rw [HPK.out, hrs.out]
                clear hor hk7 hbr
                go_roundw
                case rel => exact ⟨x2 + 1, a8, c8, rs ++ [r], by omega, by go_num, rfl, HRS, by show _ = _; have := hrl.out; simp; omega, hown7, hbr7⟩
                case measure => simp [intOf]; omega
              · have HRS : Hid (rs = pk s le) := by show _ = _; rw [hrs.out, List.take_of_length_le (by have := HQN.out; omega)]
                have HV : Hid (hasP (alL m rs) p = f le) := by show _ = _; rw [HRS.out, ← HF.out]; rfl
                have HRW : Hid (∀ r ∈ rs, r.length = m.length) := by
                  show ∀ r ∈ rs, _
                  intro r hr
                  rw [HRS.out] at hr
                  unfold pk at hr
                  obtain ⟨y, hy, rfl⟩ := List.mem_map.1 hr
                  have hys := HLT.out y hy
                  refine HR.out _ ?_
                  rw [List.getD, List.getElem?_eq_getElem hys]
                  exact List.getElem_mem hys
                obtain ⟨a8, c8, e8, hric⟩ := hor.sliceU (Nat.zero_le _) (by omega)
                obtain ⟨rfl, rfl⟩ : ar = a8 ∧ cr = c8 := by simpa using e8
                have hrs5 : rs.length ≤ 5 := by have := hrl.out; omega
                have hm9 := hm8.below hbr (by omega)
                have hp9 := hp8.below hbr (by omega)
                have hw49 := hbw8.size
                clear hor hrs hrl e8
                go_wp2_with fail
                refine (s_possible HOK.out hm9 (by omega) hric.rii (Nat.le_refl _) (by omega) HRW.out hp9 (by omega) HPL.out).mono ?_
                rintro e v9 ⟨rfl, b9⟩
                rw [HV.out]
                have hz9 := b9.size
                have hb9 := hbr.trans (b9.mono hszr)
                have hbw9 := hbw8.trans (hb9.mono hw49)
                have hwk : IntKind.i64.wrap ((k : Int) - 1) = (k : Int) - 1 := by rw [IntWalk.i64_in _ (by omega)]
                have hle5 : k + 1 ≤ s.length := hK
                cases hfl : f le
                · have HX2 := Lib.hid (HDP.out hfl)
                  have HQ2 : Hid (q = lN (List.range k ++ up)) := by show _ = _; rw [HQ.out, HLE2.out]
                  have HQL : Hid (q.length ≤ s.length) := by show _ ≤ _; have h := HX2.out.len; rw [HQ2.out, lN_len]; simp; omega
                  have hO9 : OIc v9 w4.heap.size v9.heap.size aq cq q := (ho7.below hb9 (Nat.le_refl _)).wide (by omega) (by omega)
                  clear hfl ho8 hric b9 hbr
                  go_wp2
                  go_roundw
                  case rel => exact ⟨k, up, aq, cq, q, by omega, rfl, rfl, HQ2, HQL, HX2, hO9, hbw9⟩
                  case measure => simp [intOf]
                · have HX2 := Lib.hid (HKP.out hfl)
                  have HL2 : Hid (l = lN (List.range k ++ (k :: up))) := by show _ = _; rw [hl.out, HOK2.out]
                  have hO9 : OIc v9 w4.heap.size v9.heap.size al cl l := (ho8.below hb9 (by omega)).wide (Nat.le_refl _) (by omega)
                  clear hfl ho8 hric b9 hbr
                  go_wp2
                  go_roundw
                  case rel => exact ⟨k, k :: up, al, cl, l, by omega, rfl, rfl, HL2, hll, HX2, hO9, hbw9⟩
                  case measure => simp [intOf]

end Go.Proofs.Ytbdbfbobcdepgaa
