/- Walks: BestTest, by the model and by the program. -/
import Derived.Test.YtpioldgpfpmjiaaGreatDoorZg
import Derived.Test.YtpioldgpfpmjiaaGreatDoorYi
import Derived.Test.YtpioldgpfpmjiaaGreatDoorYe
import Derived.Test.YtpioldgpfpmjiaaGreatDoorYd
namespace Go.Proofs.YtpioldgpfpmjiaaGreatDoor
open Go.RowKit

/-- a call that makes a slice of numbers, which may be shared -/
def GotI (w : World) (l : List Int) (e : Ending) (w' : World) : Prop :=
  ∃ a c, e = .returned (.slice a l.length c) ∧ RI w' w.heap.size w'.heap.size a l ∧ Below w.heap.size w w'
theorem GotI.none {w w' : World} {l : List Int} (h : l = []) (hb : Below w.heap.size w w') : GotI w l (.returned (.slice none 0 0)) w' := by
  subst h; exact ⟨_, _, rfl, RI.nil _ _ _ _, hb⟩

/- Walks: GrowSuite, by the model and by the program. -/
open Go.RowKit

theorem i_unmetR {q : List (List Int)} {x : List Int} {v : Value} {B : Nat} {w0 w : World} (h5 : x.length ≤ 5) (hr : ∀ p ∈ q, p.length = x.length) (ho : OwnP w0 B v q) (hb0 : Below w0.heap.size w0 w) (hl : q.length ≤ 1048576) :
    Calls Tryz.prog 103 #[v, .agg #[.int .i64 (at5 x 0), .int .i64 (at5 x 1), .int .i64 (at5 x 2), .int .i64 (at5 x 3), .int .i64 (at5 x 4)]] w (NewP w (rstP q x)) := by
  rw [← un_rst h5 hr]; exact i_unmetBy (at5 x) ho hb0 hl
theorem i_bestR {ps xs : List (List Int)} {v : Value} {Bp n : Nat} {wp : World} {gf : Nat} {lb : Array Value} {n₀ K : Nat} {w0 w : World} (eg : ∀ args w, (callFunc gf args).run Tryz.prog w = .ok (.enter gf args) w)
    (hseq : SeqO Tryz.prog gf lb (fun x : List Int => #[.agg #[.int .i64 (at5 x 0), .int .i64 (at5 x 1), .int .i64 (at5 x 2), .int .i64 (at5 x 3), .int .i64 (at5 x 4)]]) xs n₀ 0 0 K w0) (hn₀ : n₀ ≤ w.heap.size) (hb0 : Below n₀ w0 w)
    (ho : OwnP wp Bp v ps) (hbp : Below wp.heap.size wp w) (hl : ps.length ≤ 1048576) (hn5 : n ≤ 5) (hxr : ∀ x ∈ xs, x.length = n) (hpr : ∀ p ∈ ps, p.length = n) :
    Calls Tryz.prog 101 #[.func (.func gf) #[] lb, v] w (NewV w (.agg #[.int .i64 (at5 (bstL (frP ps) xs) 0), .int .i64 (at5 (bstL (frP ps) xs) 1), .int .i64 (at5 (bstL (frP ps) xs) 2), .int .i64 (at5 (bstL (frP ps) xs) 3), .int .i64 (at5 (bstL (frP ps) xs) 4)])) := by
  have hbe : bstL (fun x => met5 ps (at5 x)) xs = bstL (frP ps) xs := bstL_congr fun x hx => met_fr (by have := hxr x hx; omega) fun p hp => by rw [hpr p hp, hxr x hx]
  rw [← hbe]
  exact (i_bestOf eg hseq hn₀ (Nat.zero_le _) hb0 ho hbp (fun k _ _ => .inr (Nat.zero_le _)) hl).mono fun e w' ⟨he, hu⟩ => ⟨he, hu.os, hu.tape, hu.output, hu.size, fun k hk => hu.block k hk (.inr (Nat.zero_le _))⟩

/-- a grown suite, or none if it is too long -/
def grB (R : List (List Int)) : Bool := decide (R.length ≤ 20)
def grL (R : List (List Int)) : List (List Int) := if grB R then R else []

set_option maxRecDepth 100000 in
set_option maxHeartbeats 4000000 in
theorem i_grow {s ps xs : List (List Int)} {a : Option Addr} {c lo hi n Bp : Nat} {v : Value} {wp : World} {gf : Nat} {lb : Array Value} {n₀ K : Nat} {w0 w : World} (eg : ∀ args w, (callFunc gf args).run Tryz.prog w = .ok (.enter gf args) w)
    (hseq : SeqO Tryz.prog gf lb (fun x : List Int => #[.agg #[.int .i64 (at5 x 0), .int .i64 (at5 x 1), .int .i64 (at5 x 2), .int .i64 (at5 x 3), .int .i64 (at5 x 4)]]) xs n₀ 0 0 K w0) (hn₀ : n₀ ≤ w.heap.size) (hb0 : Below n₀ w0 w)
    (ho : OwnP wp Bp v ps) (hbp : Below wp.heap.size wp w) (hl : ps.length ≤ 1048576) (hn1 : 1 ≤ n) (hn5 : n ≤ 5) (hne : xs = [] → ps = []) (hxr : ∀ x ∈ xs, x.length = n) (hpr : ∀ p ∈ ps, p.length = n)
    (hs : RII w lo hi a s) (hB : hi ≤ w.heap.size) (hsl : s.length ≤ 20) (hr : ∀ r ∈ s, r ≠ [] ∧ r.length ≤ 1048576) :
    Calls Tryz.prog 84 #[.slice a s.length c, .func (.func gf) #[] lb, v, .int .i64 n] w (NewIIB w (grL (grS xs (21 - s.length) s ps)) (grB (grS xs (21 - s.length) s ps))) := by
  obtain ⟨av, cv, rfl, _⟩ := ho.at
  have HSQ := Lib.hid hseq
  have HNE := Lib.hid hne
  have HXR := Lib.hid hxr
  have HPR := Lib.hid hpr
  have HEG := Lib.hid eg
  have HR := Lib.hid hr
  have hlt0 := ho.lt
  have hszp := hbp.size
  obtain ⟨R, hR⟩ : ∃ R, grS xs (21 - s.length) s ps = R := ⟨_, rfl⟩
  have HRR := Lib.hid hR
  rw [hR]
  clear hseq hne hxr hpr eg hr hR
  go_enter Tryz.func84, Tryz.ntmps84
  go_wp2_with fail
  refine (i_copyListsL hs hB (by omega) HR.out).mono ?_
  rintro e w1 ⟨v1, rfl, ho1, hn1', hb1⟩
  obtain ⟨ad1, c1, rfl, _⟩ := ho1.some hn1'.out
  have hs1 := hb1.size
  have hlt1 := ho1.lt
  have hop1 : OwnP w1 Bp (.slice av ps.length cv) ps := ho.kept fun k hk _ => (hb1.block k (by omega)).trans (hbp.block k hk)
  have hoff1 : ∀ g, (Value.slice av ps.length cv).ownBlock = some g → (Value.slice (some ad1) s.length c1).ownBlock ≠ some g := fun g h1 h2 => by
    have := (hlt0 g h1).2; have := (hlt1 g h2).1; omega
  clear hs hlt0 hlt1 ho
  go_wp2
  go_loopw [2, 10] (fun vo vg wr => ∃ (av : Option Addr) (cv : Nat) (ps' out : List (List Int)) (ao : Addr) (co Bq : Nat), vo = .slice av ps'.length cv ∧ vg = .slice (some ao) out.length co ∧ OwnP wr Bq (.slice av ps'.length cv) ps' ∧
    (∀ g, (Value.slice av ps'.length cv).ownBlock = some g → (Value.slice (some ao) out.length co).ownBlock ≠ some g) ∧ OwnLL wr w.heap.size (.slice (some ao) out.length co) out ∧ Below w.heap.size w wr ∧ out.length ≤ 20 ∧ ps'.length ≤ 1048576 ∧
    Hid (grS xs (21 - out.length) out ps' = R ∧ (∀ p ∈ ps', p.length = n) ∧ (xs = [] → ps' = []))) (fun _ vg _ => 21 - lenV vg)
  case atStart => exact ⟨av, cv, ps, s, ad1, c1, Bp, rfl, rfl, hop1, hoff1, ho1, hb1, hsl, hl, HRR.out, HPR.out, HNE.out⟩
  case round =>
    clear hop1 hoff1 ho1
    obtain ⟨av, cv, ps', out, ao, co, Bq, rfl, rfl, hop, hoff, ho, hBl, hol, hpl', hI⟩ := hrel
    obtain ⟨wo, rfl⟩ : ∃ wo : World, wo = wr := ⟨_, rfl⟩
    have hso := hBl.size
    by_cases h0 : ps'.length = 0
    · have HE : Hid (R = out) := by show _ = _; rw [← hI.out.1, List.eq_nil_of_length_eq_zero h0, grS_done]
      obtain ⟨a2, c2, hv2, hoi⟩ := ho.slice
      cases hv2
      go_wp2
      go_ret2
      refine NewIIB.some ⟨?_, ?_⟩ rfl hoi hBl
      · rw [HE.out]; unfold grL grB; rw [decide_eq_true hol]; rfl
      · rw [HE.out]; exact decide_eq_true hol
    by_cases h20 : out.length = 20
    · have HE : Hid (grL R = [] ∧ grB R = false) := by
        have : R.length = 21 := by
          rw [← hI.out.1, h20, grS_step _ _ _ (by intro e; rw [e] at h0; simp at h0)]
          simp [grS, h20]
        unfold Hid grL grB
        rw [decide_eq_false (by omega)]
        exact ⟨rfl, rfl⟩
      go_wp2
      go_ret2
      exact NewIIB.none HE.out hBl
    have hnext : Hid (grS xs (21 - (out ++ [bstL (frP ps') xs]).length) (out ++ [bstL (frP ps') xs]) (rstP ps' (bstL (frP ps') xs)) = R) := by
      show _ = _
      rw [← hI.out.1, show 21 - out.length = (20 - out.length) + 1 from by omega, grS_step _ _ _ (by intro e; rw [e] at h0; simp at h0)]
      simp only [List.length_append, List.length_cons, List.length_nil]
      rw [show 21 - (out.length + (0 + 1)) = 20 - out.length from by omega]
    have hxl := HXR.out _ (bstL_mem (frP ps') fun e => h0 (by rw [hI.out.2.2 e]; rfl))
    go_wp2_with fail
    refine (i_bestR HEG.out HSQ.out (by omega) (hb0.trans (hBl.mono (by omega))) hop (Below.refl _ _) (by omega) hn5 HXR.out hI.out.2.1).mono ?_
    rintro e w2 ⟨rfl, hb2⟩
    have hs2 := hb2.size
    obtain ⟨x, hx⟩ : ∃ x, bstL (frP ps') xs = x := ⟨_, rfl⟩
    rw [hx] at hnext hxl ⊢
    clear hx
    have HXL := Lib.hid hxl
    have hx0 : Hid (x ≠ []) := by intro e; rw [e] at hxl; simp at hxl; omega
    have hsl5 := fun b wx => slice5 b n hn5 wx
    have hbA : Below wo.heap.size wo (w2.alloc (.cells #[.int .i64 (at5 x 0), .int .i64 (at5 x 1), .int .i64 (at5 x 2), .int .i64 (at5 x 3), .int .i64 (at5 x 4)] 130)) := hb2.alloc hs2 _
    have hbox := heap_alloc_new w2 (.cells #[.int .i64 (at5 x 0), .int .i64 (at5 x 1), .int .i64 (at5 x 2), .int .i64 (at5 x 3), .int .i64 (at5 x 4)] 130)
    have hbx := ri_box hbox (by omega)
    clear hxl
    go_wp2_with fail
    refine (x_CloneN HXL.out hbx (by simp) hx0.out (by omega)).mono ?_
    rintro e w3 ⟨a3, c3, rfl, h3, hb3⟩
    have hb03 : Below wo.heap.size wo w3 := hbA.trans (hb3.mono (by simp; omega))
    have hs03 := hb03.size
    have hs3 := hb3.size
    simp only [World.size_alloc] at hs3
    have ho3 : OIc w3 wo.heap.size w3.heap.size a3 c3 x := h3.wide (by simp; omega) (Nat.le_refl _)
    have hO := OII.oneN (t := 45) (c := c3) HXL.out ho3 hs03 (Nat.le_refl _)
    have hb4 : Below wo.heap.size wo (w3.alloc (.cells #[.slice a3 n c3] 45)) := hb03.alloc hs03 _
    obtain ⟨A3, C3, G3, hf3, hc3⟩ := Fam.ofOII hO
    have hkl : out.length ≤ 1099511627776 := by omega
    have hlg := ho.lt
    have hbox3 := (Below.heap_alloc w3 (.cells #[.slice a3 n c3] 45) w2.heap.size (by omega)).trans ((hb3.block w2.heap.size (by simp)).trans hbox)
    have hopk : ∀ w4, (w3.alloc (.cells #[.slice a3 n c3] 45)).grownBy w4 (Value.slice (some ao) out.length co).ownBlock → OwnP w4 Bq (.slice av ps'.length cv) ps' := fun w4 g =>
      hop.kept fun k hk hg => (g.block k (by have := hb4.size; omega) (fun e => hoff k hg e.symm)).trans (hb4.block k hk)
    have HPX : Hid (∀ p ∈ ps', p.length = x.length) := fun p hp => by rw [hI.out.2.1 p hp, HXL.out]
    clear hbx h3 ho3 hO hbox
    go_wp2_with (first
      | (at_builtin; refine wpList_appLLg (W0 := wo) rfl (.tmp 23) (.tmp 27) rfl w.heap.size (.slice (some ao) out.length co) out [x] rfl ho hb4 (by omega) ⟨w3.heap.size, 0, none⟩ 1 1 rfl rfl A3 C3 G3 hf3 hc3 hkl (by simp) ?_; intro v4 w4 hown4 hb5 hnn4 g2 g4; obtain ⟨ad4, c4, hv4, _⟩ := hown4.some (hnn4.out (by simp)); subst hv4; have hb11 := (g2.block w2.heap.size (by simp; omega) (fun e => by have := (hlg _ e.symm).2; omega)).trans hbox3; obtain ⟨e0, e1, e2, e3, e4⟩ := cells5' hb11; have hop4 := hopk w4 g2)
      | (go_at_call 103; refine (i_unmetR (w0 := w4) (by have := HXL.out; omega) HPX.out hop4 (Below.refl _ _) hpl').mono ?_; rintro e w5 ⟨v5, rfl, hown5, hb6⟩; obtain ⟨a5, c5, rfl, _⟩ := hown5.at)
      | go_in)
    have hlt4 := hown4.lt
    have hlt5 := hown5.lt
    have hs4 := hb5.size
    have hs5 := hb6.size
    have hrs := rstP_le ps' x
    have hown6 := hown4.below hb6
    have hBl6 : Below w.heap.size w w5 := ((hBl.trans (hb4.mono (by omega))).trans hb5).trans (hb6.mono (by have := hb4.size; omega))
    have hoff6 : ∀ g, (Value.slice a5 (rstP ps' x).length c5).ownBlock = some g → (Value.slice (some ad4) (out ++ [x]).length c4).ownBlock ≠ some g := fun g h1 h2 => by
      have := (hlt5 g h1).1; have := (hlt4 g h2).2; omega
    have HI6 : Hid (grS xs (21 - (out ++ [x]).length) (out ++ [x]) (rstP ps' x) = R ∧ (∀ p ∈ rstP ps' x, p.length = n) ∧ (xs = [] → rstP ps' x = [])) := ⟨hnext.out, fun p h => hI.out.2.1 p (rstP_mem h), fun e => by rw [hI.out.2.2 e]; rfl⟩
    clear hop hoff ho hop4 hb4 hb5 hb6 hown4 hnn4 g2 g4 hlg hlt4 hlt5 hBl hb11 hopk
    go_roundw
    case rel => exact ⟨a5, c5, rstP ps' x, out ++ [x], ad4, c4, _, rfl, by simp, hown5, hoff6, hown6, hBl6, by simp; omega, by omega, HI6⟩
    case measure => simp [lenV]; omega

set_option maxRecDepth 100000 in
set_option maxHeartbeats 1000000 in
theorem s_GrowSuite {m : List Int} {s : List (List Int)} {a a' : Option Addr} {c c' lo hi lo' hi' : Nat} {w : World} {t : Int} (hm : RI w lo hi a m) (hlm : m.length ≤ 9223372036854775807) (hs : RII w lo' hi' a' s) (hls : s.length ≤ 9223372036854775807) (hg : ∀ r ∈ s, r.length ≤ 9223372036854775807) (_ht0 : -9223372036854775808 ≤ t) (_ht1 : t ≤ 9223372036854775807) (hB : hi ≤ w.heap.size) (hB' : hi' ≤ w.heap.size) :
    Calls Tryz.prog 31 #[.slice a m.length c, .slice a' s.length c', .int .i64 t] w (NewIIB w (gsL m s t) (gsB m s t)) := by
  have HG := Lib.hid hg; clear hg
  cases hc : okC m s t
  · have HC := Lib.hid hc; clear hc
    go_enter Tryz.func31, Tryz.ntmps31
    go_wp2_with fail
    refine (s_good hm hlm hs hls HG.out).mono ?_
    rintro e w1 ⟨rfl, hd⟩
    rw [HC.out]
    go_wp2
    go_ret2
    exact NewIIB.none (gs_no (.inl HC.out)) (Dr.below hd _)
  have hp := okC_parts hc
  have HR := Lib.hid hp.2.2.2
  have hsl := hp.2.2.1
  have ht := hp.2.1
  have HOK := Lib.hid hp.1
  have hm5 := okM_len hp.1
  have HC := Lib.hid hc; clear hc hp
  have HNE := Lib.hid (ext_ne HOK.out)
  have HRow := Lib.hid (ext_row (m := m))
  have HLN := Lib.hid (ext_len HOK.out)
  have HML := Lib.hid (misL_len (s := s) (t := t) HOK.out)
  have HMR := Lib.hid (misL_row (m := m) (s := s) (t := t))
  have HSR : Hid (∀ r ∈ s, r ≠ [] ∧ r.length ≤ 1048576) := by
    intro r hr
    have := HR.out r hr
    exact ⟨by intro e; rw [e] at this; simp at this; omega, by omega⟩
  have HGS : Hid (gsL m s t = grL (gsR m s t) ∧ gsB m s t = grB (gsR m s t)) := by
    show _ ∧ _
    unfold gsL gsB grL grB; rw [HC.out, Bool.true_and]; exact ⟨rfl, rfl⟩
  have HGE : Hid (gsR m s t = grS (extS m []) (21 - s.length) s (misL m s t)) := rfl
  have hgl := (grS_len (extS m []) (21 - s.length) s (misL m s t)).2
  go_enter Tryz.func31, Tryz.ntmps31
  go_wp2_with fail
  refine (s_good hm hlm hs hls HG.out).mono ?_
  rintro e w1 ⟨rfl, hd⟩
  rw [HC.out]
  have hz1 := Dr.le hd
  have hbA := (Below.refl w1.heap.size w1).alloc (Nat.le_refl _) (.cells #[] 3)
  have hm1 := hm.dr hd
  have hs1 := hs.dr hd
  have hm3 := hm1.below hbA (by omega)
  go_wp2_with fail
  refine (s_extend HOK.out m.length [] a ⟨w1.heap.size, 0, none⟩ c 0 lo hi 0 0 _ (by simp) hm3 (by simp; omega) (RI.nil _ _ _ _) (by simp)).mono ?_
  rintro e w2 ⟨ad2, c2, rfl, h2, hb2⟩
  obtain ⟨ps, hps⟩ : ∃ ps, extS m [] = ps := ⟨_, rfl⟩
  rw [hps] at h2 HNE HRow HLN HGE hgl ⊢
  clear hps
  have hb02 : Below w1.heap.size w1 w2 := hbA.trans (hb2.mono (by simp))
  have hs2 := hb02.size
  have hall : RII w2 w1.heap.size w2.heap.size (some ad2) ps := h2.rii.wide (by simp) (Nat.le_refl _)
  have hpl := HLN.out
  clear h2 hb2 hbA hm3
  go_wp2_with fail
  refine (s_missing HOK.out (hm1.below hb02 (by omega)) (by omega) (hs1.below hb02 (by omega)) (by omega) (by omega) HR.out ht.1 ht.2).mono ?_
  rintro e w3 ⟨a3, c3, rfl, h3, hb3⟩
  have hs3 := hb3.size
  have hall3 := hall.below hb3 (Nat.le_refl _)
  have hml := HML.out
  obtain ⟨q, hq⟩ : ∃ q, misL m s t = q := ⟨_, rfl⟩
  rw [hq] at h3 hml HMR HGE hgl ⊢
  clear hq HML
  go_wp2_with fail
  refine (s_greedy ((hs1.below hb02 (by omega)).below hb3 (by omega)) (by omega) hsl HSR.out hall3 (by omega) h3.rii (by omega) HNE.out (by omega) (by omega) HRow.out (fun p hp => by have := HMR.out p hp; omega) (by omega) (by omega)).mono ?_
  rintro e w4 ⟨v4, rfl, ho4, hn4, hb4⟩
  obtain ⟨R, hR⟩ : ∃ R, grS ps (21 - s.length) s q = R := ⟨_, rfl⟩
  rw [hR] at ho4 HGE hgl
  rw [HGE.out] at HGS
  clear hR
  obtain ⟨ad4, c4, rfl, h4⟩ := ho4.some hn4.out
  have hB4 : Below w.heap.size w w4 := bnext (Dr.below hd _) ((hb02.trans (hb3.mono hs2)).trans (hb4.mono (by omega)))
  clear hall hall3 h3 hb02 hb3 hb4 hm1 hs1
  by_cases hR20 : R.length ≤ 20
  · have HE : Hid (grL R = R ∧ grB R = true) := by unfold Hid grL grB; rw [decide_eq_true hR20]; exact ⟨rfl, rfl⟩
    have hdec : decide (20 < R.length) = false := decide_eq_false (by omega)
    go_wp2
    go_ret2
    rw [HGS.out.1, HGS.out.2]
    exact NewIIB.some HE.out rfl (by have := h4; exact ⟨this.oii.wide (by omega) (Nat.le_refl _), this.cap⟩) hB4
  · have HE : Hid (grL R = [] ∧ grB R = false) := by unfold Hid grL grB; rw [decide_eq_false hR20]; exact ⟨rfl, rfl⟩
    have hdec : decide (20 < R.length) = true := decide_eq_true (by omega)
    go_wp2
    go_ret2
    rw [HGS.out.1, HGS.out.2]
    exact NewIIB.none HE.out hB4

set_option maxRecDepth 100000 in
set_option maxHeartbeats 1000000 in
theorem i_GrowSuite {m : List Int} {s : List (List Int)} {a a' : Option Addr} {c c' lo hi lo' hi' : Nat} {w : World} {t : Int} (hm : RI w lo hi a m) (hlm : m.length ≤ 9223372036854775807) (hs : RII w lo' hi' a' s) (hls : s.length ≤ 9223372036854775807) (hg : ∀ r ∈ s, r.length ≤ 9223372036854775807) (_ht0 : -9223372036854775808 ≤ t) (_ht1 : t ≤ 9223372036854775807) (hB : hi ≤ w.heap.size) (hB' : hi' ≤ w.heap.size) :
    Calls Tryz.prog 70 #[.slice a m.length c, .slice a' s.length c', .int .i64 t] w (NewIIB w (gsL m s t) (gsB m s t)) := by
  have HG := Lib.hid hg; clear hg
  cases hc : okC m s t
  · have HC := Lib.hid hc; clear hc
    go_enter Tryz.func70, Tryz.ntmps70
    go_wp2_with fail
    refine (i_canCover hm hlm hs hls HG.out).mono ?_
    rintro e w1 ⟨rfl, hd⟩
    rw [HC.out]
    go_wp2
    go_ret2
    exact NewIIB.none (gs_no (.inl HC.out)) (Dr.below hd _)
  have hp := okC_parts hc
  have HR := Lib.hid hp.2.2.2
  have hsl := hp.2.2.1
  have ht := hp.2.1
  have HOK := Lib.hid hp.1
  have hm5 := okM_len hp.1
  have HC := Lib.hid hc; clear hc hp
  have HNE := Lib.hid (ext_ne HOK.out)
  have HRow := Lib.hid (ext_row (m := m))
  have HML := Lib.hid (misL_len (s := s) (t := t) HOK.out)
  have HMR := Lib.hid (misL_row (m := m) (s := s) (t := t))
  have HSR : Hid (∀ r ∈ s, r ≠ [] ∧ r.length ≤ 1048576) := by
    intro r hr
    have := HR.out r hr
    exact ⟨by intro e; rw [e] at this; simp at this; omega, by omega⟩
  have HGS : Hid (gsL m s t = grL (gsR m s t) ∧ gsB m s t = grB (gsR m s t)) := by
    show _ ∧ _
    unfold gsL gsB grL grB; rw [HC.out, Bool.true_and]; exact ⟨rfl, rfl⟩
  have HGE : Hid (gsR m s t = grS (extS m []) (21 - s.length) s (misL m s t)) := rfl
  go_enter Tryz.func70, Tryz.ntmps70
  go_wp2_with fail
  refine (i_canCover hm hlm hs hls HG.out).mono ?_
  rintro e w1 ⟨rfl, hd⟩
  rw [HC.out]
  have hz1 := Dr.le hd
  have hm1 := hm.dr hd
  go_wp2_with fail
  refine (i_testsOf (w := w1)).mono ?_
  rintro e w2 ⟨rfl, hw2⟩
  have hbx : w2.heap[w1.heap.size]? = some (.cells #[.slice a m.length c] 45 (0, 0)) := by rw [hw2]; exact heap_alloc_new _ _
  have hb2 : Below w1.heap.size w1 w2 := by rw [hw2]; exact (Below.refl _ w1).alloc (Nat.le_refl _) _
  have hz2 : w2.heap.size = w1.heap.size + 1 := by rw [hw2]; simp
  clear hw2
  have hseq := testsOf1_seq (n₀ := w2.heap.size) HOK.out (hm1.below hb2 (by omega)) (by omega) hbx (by omega) (Nat.le_refl _)
  have HSEQ := Lib.hid hseq
  have hs2 := (hs.dr hd).below hb2 (by omega)
  clear hseq
  go_wp2_with fail
  refine (i_missingPatterns HOK.out (hm1.below hb2 (by omega)) (by omega) hs2 (by omega) (by omega) HR.out ht.1 ht.2).mono ?_
  rintro e w3 ⟨v3, rfl, hown, hb3⟩
  have hz3 := hb3.size
  have hs3 := hs2.below hb3 (by omega)
  obtain ⟨q, hq⟩ : ∃ q, misL m s t = q := ⟨_, rfl⟩
  obtain ⟨xs, hxs⟩ : ∃ xs, extS m [] = xs := ⟨_, rfl⟩
  rw [hq] at hown HML HMR HGE
  rw [hxs] at HSEQ HNE HRow HGE
  clear hq hxs
  have hml := HML.out
  obtain ⟨av3, cv3, rfl, _⟩ := hown.at
  go_wp2_with fail
  refine (i_grow (enters_of Tryz.func104 (by kernel_rfl) rfl) HSEQ.out (by omega) hb3 hown (Below.refl _ _) (by omega) hm5.1 hm5.2 (fun e => absurd e HNE.out) HRow.out HMR.out hs3 (by omega) hsl HSR.out).mono ?_
  rintro e w4 ⟨a4, c4, rfl, h4, hb4⟩
  rw [← HGE.out] at h4 ⊢
  go_wp2
  go_ret2
  rw [HGS.out.1, HGS.out.2]
  have hbW := Dr.below hd w.heap.size
  refine ⟨a4, c4, rfl, ⟨h4.oii.wide (by omega) (Nat.le_refl _), h4.cap⟩, hbW.trans ((hb2.trans ((hb3.trans (hb4.mono hz3)).mono (by omega))).mono (by omega))⟩

end Go.Proofs.YtpioldgpfpmjiaaGreatDoor
