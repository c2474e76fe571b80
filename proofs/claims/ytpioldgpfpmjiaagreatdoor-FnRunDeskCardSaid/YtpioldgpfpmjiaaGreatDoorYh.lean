/- Walks: suites that grow, by the model. -/
import Derived.Test.YtpioldgpfpmjiaaGreatDoorYg
namespace Go.Proofs.YtpioldgpfpmjiaaGreatDoor
open Go.RowKit

theorem s_matchesN {p x : List Int} {a a' : Option Addr} {c c' lo hi lo' hi' n : Nat} {w : World} {q : Bool} (hn : x.length = n) (hq : mB p x = q) (hp : RI w lo hi a p) (hx : RI w lo' hi' a' x) (h1 : p.length ≤ n) (h2 : n ≤ 1048576) :
    Calls Tryz.prog 54 #[.slice a p.length c, .slice a' n c'] w (RO w (.bool q)) := by
  subst hn hq
  exact s_matches hp hx h1 (by omega)

set_option maxRecDepth 100000 in
set_option maxHeartbeats 4000000 in
theorem s_greedy {s all ps : List (List Int)} {a a' a'' : Option Addr} {c c' c'' lo hi lo' hi' lo'' hi'' n : Nat} {w : World} (hs : RII w lo'' hi'' a'' s) (hB'' : hi'' ≤ w.heap.size) (hsl : s.length ≤ 20) (hsr : ∀ r ∈ s, r ≠ [] ∧ r.length ≤ 1048576)
    (hA : RII w lo hi a all) (hB : hi ≤ w.heap.size) (hP : RII w lo' hi' a' ps) (hB' : hi' ≤ w.heap.size) (hne : all ≠ []) (hl : all.length ≤ 1048576) (hpl : ps.length ≤ 1048576) (hr : ∀ x ∈ all, x.length = n) (hp : ∀ p ∈ ps, p.length ≤ n) (hn1 : 1 ≤ n) (hn : n ≤ 1048576) :
    Calls Tryz.prog 38 #[.slice a'' s.length c'', .slice a all.length c, .slice a' ps.length c'] w (NewLL w (grS all (21 - s.length) s ps)) := by
  have HR := Lib.hid hr
  have HP := Lib.hid hp
  have HNE := Lib.hid hne
  have HSR := Lib.hid hsr
  clear hr hp hne hsr
  go_enter Tryz.func38, Tryz.ntmps38
  go_wp2_with fail
  refine (s_copySuiteL hs hB'' (by omega) HSR.out).mono ?_
  rintro e w1 ⟨v1, rfl, ho1, hn1', hb1⟩
  obtain ⟨ad1, c1, rfl, _⟩ := ho1.some hn1'.out
  have hs1 := hb1.size
  have hlt1 := ho1.lt
  have hA1 := hA.below hb1 hB
  have hP1 : RIO w1 (Off w1 (.slice (some ad1) s.length c1)) lo' hi' a' ps := RIO.ofRII (hP.below hb1 hB') fun b h1 h2 => ⟨by omega, fun e => by have := (hlt1 b e).1; omega⟩
  clear hs hA hP hlt1
  go_wp2
  go_loopw [2, 7] (fun vl vo wr => ∃ (al : Option Addr) (cl : Nat) (ps' out : List (List Int)) (ao : Addr) (co : Nat), vl = .slice al ps'.length cl ∧ vo = .slice (some ao) out.length co ∧ RIO wr (Off wr (.slice (some ao) out.length co)) lo' hi' al ps' ∧ OwnLL wr w.heap.size (.slice (some ao) out.length co) out ∧ Below w.heap.size w wr ∧ out.length ≤ 21 ∧ ps'.length ≤ 1048576 ∧ RII wr lo hi a all ∧ Hid (grS all (21 - out.length) out ps' = grS all (21 - s.length) s ps ∧ ∀ p ∈ ps', p.length ≤ n)) (fun _ vo _ => 21 - lenV vo)
  case atStart => exact ⟨a', c', ps, s, ad1, c1, rfl, rfl, hP1, ho1, hb1, by omega, hpl, hA1, rfl, HP.out⟩
  case round =>
    clear hP1 ho1 hA1
    obtain ⟨al, cl, ps', out, ao, co, rfl, rfl, hL, ho, hBl, hol, hpl', hA, hI⟩ := hrel
    obtain ⟨wo, rfl⟩ : ∃ wo : World, wo = wr := ⟨_, rfl⟩
    have hso := hBl.size
    by_cases h0 : ps'.length = 0
    · have HE : Hid (grS all (21 - s.length) s ps = out) := by show _ = _; rw [← hI.out.1]; exact grS_out (.inl (List.eq_nil_of_length_eq_zero h0))
      go_wp2
      go_ret
      rw [HE.out]
      exact ⟨_, rfl, ho, by simp [Hid], hBl⟩
    by_cases h20 : out.length ≤ 20
    case neg =>
      have HE : Hid (grS all (21 - s.length) s ps = out) := by show _ = _; rw [← hI.out.1]; exact grS_out (.inr (by omega))
      go_wp2
      go_ret
      rw [HE.out]
      exact ⟨_, rfl, ho, by simp [Hid], hBl⟩
    have hLr : RII wo 0 wo.heap.size al ps' := hL.rii (fun b h => h.1) (by omega)
    have hlt := ho.lt
    go_wp2_with fail
    refine (s_bestTest hA hLr HNE.out hl hpl' HR.out hI.out.2 hn).mono ?_
    rintro e w2 ⟨a2, c2, rfl, hx2, hxl, _, hd2⟩
    obtain ⟨x, hx⟩ : ∃ x, bstL (frP ps') all = x := ⟨_, rfl⟩
    have HX := Lib.hid hx
    rw [hx] at hx2 hxl
    have HXL := Lib.hid hxl
    have hxne : x ≠ [] := by intro e; rw [e] at hxl; simp at hxl; omega
    obtain ⟨ax, rfl⟩ := hx2.addr hxne
    have hd2b := Dr.below hd2 wo.heap.size
    have hz2 := Dr.le hd2
    have ho2 := ho.below hd2b
    have hBl2 := hBl.trans (hd2b.mono (by omega))
    have hbA := (Below.refl w2.heap.size w2).alloc (Nat.le_refl _) (.cells #[] 3)
    have hstr := OwnL.made w2 w2.heap.size (Nat.le_refl _)
    have hhs := hx2.below hbA (by omega)
    have hkl : out.length ≤ 1099511627776 := by omega
    have HI1 : Hid (grS all (21 - (out ++ [x]).length) (out ++ [x]) (rstP ps' x) = grS all (21 - s.length) s ps) := by
      show _ = _
      rw [← hI.out.1, ← HX.out, show 21 - out.length = (20 - out.length) + 1 from by omega, grS_step _ _ _ (by intro e; rw [e] at h0; simp at h0)]
      simp only [List.length_append, List.length_cons, List.length_nil]
      rw [show 21 - (out.length + (0 + 1)) = 20 - out.length from by omega]
    clear hx hxl hxne hbA hLr hd2 ho
    go_wp2_with (first
      | (at_builtin; refine wpList_appS rfl (.tmp 25) (.tmp 26) rfl w2.heap.size _ [] rfl hstr x lo hi c2 ax (by rw [HXL.out]; rfl) hhs (by simp) (by rw [HXL.out]; omega) (by simp) ?_; intro v3 w3 hown3 hb3; have hb03 := chain1 hb3; have hs03 := hb03.size; simp only [List.nil_append] at hown3; obtain ⟨a3, c3, rfl, ho3⟩ := hown3.slice; have hO := OII.oneN (t := 45) (c := c3) rfl ho3 hs03 (Nat.le_refl _); have hb4 := hb03.alloc hs03 (.cells #[.slice a3 x.length c3] 45); obtain ⟨A4, C4, G4, hf4, hc4⟩ := Fam.ofOII hO; clear hown3 hb3 hO hstr hhs)
      | (at_builtin; refine wpList_appLLg (W0 := w2) rfl (.tmp 24) (.tmp 28) rfl w.heap.size (.slice (some ao) out.length co) out [x] rfl ho2 hb4 (by omega) ⟨w3.heap.size, 0, none⟩ 1 1 rfl rfl A4 C4 G4 hf4 hc4 hkl (by simp) ?_; intro v4 w4 hown4 hb5 hnn4 g2 g4; have hb24 := hb4; have hs24 := hb4.size; have hs4 := hb5.size; obtain ⟨ad4, c4, hv4, _⟩ := hown4.some (hnn4.out (by simp)); subst hv4; clear hf4 hc4 ho2)
      | go_in)
    have hbW := hd2b.trans (hb4.mono hz2.2)
    have hbo4 := (hbW.mono hso).trans hb5
    have hL4 := hL.same (P' := Off w4 (.slice (some ad4) (out ++ [x]).length c4)) (fun b h => h.grown hbW g2 g4) (fun b _ h => hbo4.block b (by omega))
    have hx4 := hx2.below ((hb4.mono (show w.heap.size ≤ w2.heap.size by omega)).trans hb5) hB
    have hA4 := hA.below hbo4 hB
    have hBl4 := hBl.trans hbo4
    have hlt4 := hown4.lt
    have hs44 := hBl4.size
    have hst := OwnRR.made w4 w4.heap.size lo' hi' (Nat.le_refl _) (.inr (by omega))
    have hbst := (Below.refl w4.heap.size w4).alloc (Nat.le_refl _) (.cells #[] 45)
    clear hL hA hx2 hb4 hb5 g2 g4 hbW hbo4 hBl hBl2 hd2b hb03 ho3 hlt hs24 hb24 hnn4
    go_loopw [9, 10] (fun vr i wr2 => ∃ k : Nat, k ≤ ps'.length ∧ i = .int .i64 k ∧ OwnRR wr2 w4.heap.size lo' hi' vr (rstP (ps'.take k) x) ∧ Below w4.heap.size w4 wr2) (fun _ i _ => ps'.length - (intOf i).toNat)
    case atStart => exact ⟨0, Nat.zero_le _, rfl, by simpa [rstP] using hst, hbst⟩
    case round =>
      clear hst hbst
      obtain ⟨k, hk, rfl, hown, hB4⟩ := hrel
      have hsz := hB4.size
      have hx5 := hx4.below hB4 (by omega)
      by_cases hlt : k < ps'.length
      · have hL5 := hL4.same (P' := fun b => b < w4.heap.size) (fun b h => ⟨h.1, hB4.block b h.1⟩) (fun b _ h => hB4.block b (by omega))
        obtain ⟨b, o, a6, c6, r, ha, hbP, hcell, hr1, hxx, hcp⟩ := hL5.at hlt
        have hidx := idxII ha hlt cl
        have hrl := hI.out.2 r (List.mem_of_getElem? hxx.out)
        have hml := rstP_len ps' x k
        clear ha hL5
        cases hc : mB r x
        · have HC := Lib.hid hc; clear hc
          have HM := Lib.hid (rstP_step hxx.out HC.out)
          go_wp2_with (first
            | (go_at_call 54; refine (s_matchesN HXL.out HC.out hr1 hx5 hrl hn).mono ?_; rintro e w6 ⟨rfl, hd⟩; have hown2 := hown.below (Dr.below hd _) (by omega); have hz6 := Dr.le hd; have hr2 := hr1.dr hd; have hcell2 : w6.cell? ⟨b, o + k, none⟩ = _ := ((Dr.below hd wr.heap.size).cell (p := ⟨b, o + k, none⟩) (by show b < _; omega)).trans hcell; have hB02 := Dr.below hd wr.heap.size; clear hd)
            | (at_builtin; refine wpList_appR1 rfl (.tmp 44) (.tmp 49) rfl w4.heap.size lo' hi' _ (rstP (ps'.take k) x) rfl hown2 (by omega) (by omega) r a6 r.length c6 rfl hr2 hcp w6.heap.size rfl rfl (by omega) ?_; intro v7 w7 hown7 hk7 _)
            | go_in)
          rw [← HM.out] at hown7
          have hB7 := (hB4.trans (hB02.mono (by omega))).trans (hk7.below (by omega))
          clear hB4 hk7 hown hown2 hB02
          go_roundw
          case rel => exact ⟨k + 1, by omega, by go_num, hown7, hB7⟩
          case measure => simp [intOf]; omega
        · have HC := Lib.hid hc; clear hc
          have HM := Lib.hid (rstP_skip hxx.out HC.out)
          go_wp2_with fail
          refine (s_matchesN HXL.out HC.out hr1 hx5 hrl hn).mono ?_
          rintro e w6 ⟨rfl, hd⟩
          have hown2 := hown.below (Dr.below hd _) (by omega)
          rw [← HM.out] at hown2
          have hB7 := hB4.trans (Dr.below hd _)
          clear hB4 hown
          go_wp2
          go_roundw
          case rel => exact ⟨k + 1, by omega, by go_num, hown2, hB7⟩
          case measure => simp [intOf]; omega
      · have HKE : Hid (ps'.take k = ps') := List.take_of_length_le (by omega)
        rw [HKE.out] at hown
        obtain ⟨a8, c8, rfl, hL8, _⟩ := hown.rio (P := Off wr (.slice (some ad4) (out ++ [x]).length c4)) fun b h1 h2 => ⟨h2, fun e => by have := (hlt4 b e).2; omega⟩
        have ho8 := hown4.below hB4
        have hBl8 := hBl4.trans (hB4.mono (by omega))
        have hA8 := hA4.below hB4 (by omega)
        have hrs := rstP_le ps' x
        have HI8 : Hid (grS all (21 - (out ++ [x]).length) (out ++ [x]) (rstP ps' x) = grS all (21 - s.length) s ps ∧ ∀ p ∈ rstP ps' x, p.length ≤ n) := ⟨HI1.out, fun p h => hI.out.2 p (rstP_mem h)⟩
        clear hown hown4 hL4 hA4 hx4 hx5
        go_wp2
        go_roundw
        case rel => exact ⟨a8, c8, rstP ps' x, out ++ [x], ad4, c4, rfl, by simp, hL8, ho8, hBl8, by simp; omega, by omega, hA8, HI8⟩
        case measure => simp [lenV]; omega

/- Walks: suites that grow of nothing, by the model. -/
open Go.RowKit

set_option maxRecDepth 100000 in
theorem s_greedy0 {a a' : Option Addr} {c c' n : Nat} {w : World} :
    Calls Tryz.prog 38 #[.slice (some ⟨n, 0, none⟩) 0 0, .slice a 0 c, .slice a' 0 c'] w (NewLL w []) := by
  go_enter Tryz.func38, Tryz.ntmps38
  go_wp2_with fail
  refine (s_copySuiteL (s := []) (RII.nil w 0 0 _) (by omega) (by simp) (by simp)).mono ?_
  rintro e w1 ⟨v1, rfl, ho1, hn1', hb1⟩
  obtain ⟨ad1, c1, rfl, _⟩ := ho1.some hn1'.out
  obtain ⟨wo, rfl⟩ : ∃ wo : World, wo = w1 := ⟨_, rfl⟩
  go_wp2
  go_loopw [2, 7] (fun vl vo wr => vl = .slice a' 0 c' ∧ vo = .slice (some ad1) 0 c1 ∧ wr = wo) (fun _ _ _ => 0)
  case atStart => exact ⟨rfl, rfl, rfl⟩
  case round =>
    obtain ⟨rfl, rfl, rfl⟩ := hrel
    go_wp2
    go_ret
    exact ⟨_, rfl, ho1, hn1', hb1⟩

theorem s_greedyA {all ps : List (List Int)} {a a' : Option Addr} {c c' lo hi lo' hi' n k : Nat} {w : World}
    (hA : RII w lo hi a all) (hB : hi ≤ w.heap.size) (hP : RII w lo' hi' a' ps) (hB' : hi' ≤ w.heap.size) (hne : all = [] → ps = []) (hl : all.length ≤ 1048576) (hpl : ps.length ≤ 1048576) (hr : ∀ x ∈ all, x.length = n) (hp : ∀ p ∈ ps, p.length ≤ n) (hn1 : 1 ≤ n) (hn : n ≤ 1048576) :
    Calls Tryz.prog 38 #[.slice (some ⟨k, 0, none⟩) 0 0, .slice a all.length c, .slice a' ps.length c'] w (NewLL w (grS all 21 [] ps)) := by
  by_cases h0 : all = []
  · have h1 := hne h0
    subst h0 h1
    rw [grS_done]
    exact s_greedy0
  · exact s_greedy (s := []) (n := n) (RII.nil w 0 0 _) (by omega) (by simp) (by simp) hA hB hP hB' h0 hl hpl hr hp hn1 hn

end Go.Proofs.YtpioldgpfpmjiaaGreatDoor
