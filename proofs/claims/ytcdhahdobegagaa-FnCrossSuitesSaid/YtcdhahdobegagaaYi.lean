/- Walks: suites without a test, by the model. -/
import Derived.Test.YtcdhahdobegagaaYh
import Derived.Deep.RegionLaw
namespace Go.Proofs.Ytcdhahdobegagaa
open Go.RowKit

theorem addrAdd (b o k : Nat) : (⟨b, o, none⟩ : Addr).add k = ⟨b, o + k, none⟩ := by unfold Addr.add; split <;> simp_all
theorem elemII : Program.elem Try.prog 24 = 23 := by kernel_rfl
theorem undIIe : Try.prog.underlying 24 = some (.slice (Program.elem Try.prog 24)) := by kernel_rfl
/-- x[:k] of a slice of slices -/
theorem sliceToII {b o n c k : Nat} {z : Int} (hz : z = (k : Int)) (hk : k ≤ c) (wx : World) : (Instr.slice 24 (.slice (some ⟨b, o, none⟩) n c) none (some (.int .i64 z)) none).run Try.prog wx = .ok (.slice (some ⟨b, o, none⟩) k c) wx := by
  subst hz
  rw [run_slice_h (P := Try.prog) (w := wx) 24 (some ⟨b, o, none⟩) n c undIIe .i64 (k : Int) (by omega) (by omega)]
  have hs := sizeI wx
  rw [elemII]
  simp [hs, Result.andThen, sliced, Addr.add]
/-- x[k:] -/
theorem sliceFromII {b o n c k : Nat} {z : Int} (hz : z = (k : Int)) (hk : k ≤ n) (hn : n ≤ c) : ∃ o', (k < n → o' = o + k) ∧ ∀ wx : World, (Instr.slice 24 (.slice (some ⟨b, o, none⟩) n c) (some (.int .i64 z)) none none).run Try.prog wx = .ok (.slice (some ⟨b, o', none⟩) (n - k) (c - k)) wx := by
  subst hz
  refine ⟨if c = k then o else o + k, fun h => by rw [if_neg (by omega)], fun wx => ?_⟩
  rw [run_slice_l (P := Try.prog) (w := wx) 24 (some ⟨b, o, none⟩) n c undIIe .i64 (k : Int) (by omega) (by omega)]
  have hs := sizeI wx
  rw [elemII]
  simp only [hs, Result.andThen, sliced, Int.toNat_natCast, Nat.mul_one, Option.map_some, addrAdd]
  split <;> rfl
theorem RII.cells {w : World} {lo hi b o : Nat} {s : List (List Int)} (h : RII w lo hi (some ⟨b, o, none⟩) s) {j : Nat} {r : List Int} (hr : s[j]? = some r) : ∃ a' c', w.cell? ⟨b, o + j, none⟩ = some (.slice a' r.length c') ∧ RI w lo hi a' r ∧ r.length ≤ c' := by
  obtain ⟨b', o', a', c', r', h1, h2, h3, h4, h5, h6, h7⟩ := h j (lt_of_at hr)
  obtain ⟨rfl, rfl⟩ : b = b' ∧ o = o' := by simpa using h1
  rw [hr] at h4
  cases h4
  exact ⟨a', c', h5, h6, h7⟩
theorem RII.take {w : World} {lo hi b o : Nat} {s : List (List Int)} (h : RII w lo hi (some ⟨b, o, none⟩) s) (k : Nat) : ∀ (j : Nat) (r : List Int), (s.take k)[j]? = some r → ∃ a' c', w.cell? ((⟨b, o, none⟩ : Addr).add j) = some (.slice a' r.length c') ∧ RI w lo hi a' r ∧ r.length ≤ c' := by
  intro j r e
  rw [addrAdd]
  refine h.cells ?_
  have hj := lt_of_at e
  simp at hj
  rwa [List.getElem?_take_of_lt (by omega)] at e
theorem RII.drop {w : World} {lo hi b o o' : Nat} {s : List (List Int)} (h : RII w lo hi (some ⟨b, o, none⟩) s) {k : Nat} (ho : k < s.length → o' = o + k) : ∀ (j : Nat) (r : List Int), (s.drop k)[j]? = some r → ∃ a' c', w.cell? ((⟨b, o', none⟩ : Addr).add j) = some (.slice a' r.length c') ∧ RI w lo hi a' r ∧ r.length ≤ c' := by
  intro j r e
  have hj := lt_of_at e
  simp at hj
  rw [addrAdd, ho (by omega), Nat.add_assoc]
  refine h.cells ?_
  rwa [List.getElem?_drop] at e
theorem RII.addc {w : World} {lo hi : Nat} {ad : Addr} {s : List (List Int)} (h : RII w lo hi (some ad) s) : ∀ (j : Nat) (r : List Int), s[j]? = some r → ∃ a' c', w.cell? (ad.add j) = some (.slice a' r.length c') ∧ RI w lo hi a' r ∧ r.length ≤ c' := by
  intro j r hr
  obtain ⟨b', o', a', c', r', h1, h2, h3, h4, h5, h6, h7⟩ := h j (lt_of_at hr)
  cases h1
  rw [hr] at h4
  cases h4
  exact ⟨a', c', by rw [addrAdd]; exact h5, h6, h7⟩
theorem RII.takeR {w : World} {lo hi b o : Nat} {s : List (List Int)} (h : RII w lo hi (some ⟨b, o, none⟩) s) (k : Nat) : RII w lo hi (some ⟨b, o, none⟩) (s.take k) := by
  intro j hj
  simp at hj
  obtain ⟨b', o', a', c', r', h1, h2, h3, h4, h5⟩ := h j (by omega)
  exact ⟨b', o', a', c', r', h1, h2, h3, by rw [List.getElem?_take_of_lt (by omega)]; exact h4, h5⟩
theorem RII.dropR {w : World} {lo hi b o o' : Nat} {s : List (List Int)} (h : RII w lo hi (some ⟨b, o, none⟩) s) {k : Nat} (ho : k < s.length → o' = o + k) : RII w lo hi (some ⟨b, o', none⟩) (s.drop k) := by
  intro j hj
  simp at hj
  obtain ⟨b', o'', a', c', r', h1, h2, h3, h4, h5, h6⟩ := h (k + j) (by omega)
  obtain ⟨rfl, rfl⟩ : b = b' ∧ o = o'' := by simpa using h1
  refine ⟨b, o', a', c', r', rfl, h2, h3, by rw [List.getElem?_drop]; exact h4, ?_, h6⟩
  rw [ho (by omega), Nat.add_assoc]; exact h5
theorem OwnRR.sliceU {w : World} {B lo hi : Nat} {v : Value} {mm : List (List Int)} (h : OwnRR w B lo hi v mm) (hl : lo ≤ B) (hs : hi ≤ w.heap.size) : ∃ a c, v = .slice a mm.length c ∧ RIIc w lo w.heap.size a c mm := by
  have hlt := h.lt
  obtain ⟨xs, h1, h2, h3⟩ := h
  rcases h1.2 with ⟨rfl, h0⟩ | ⟨g, cap, cur, rfl, hb, hg, hn, hm, hx, ht⟩
  · have e : mm = [] := List.eq_nil_of_length_eq_zero h0
    subst e
    exact ⟨none, 0, rfl, RII.nil _ _ _ _, by simp⟩
  · refine ⟨_, _, rfl, fun k hk => ?_, hn⟩
    obtain ⟨r, hr⟩ := at_of_lt hk
    obtain ⟨a, c, e1, e2, e3⟩ := h2 k r hr
    refine ⟨g, 0, a, c, r, rfl, by omega, (hlt g rfl).2, hr, ?_, e2.wide (Nat.le_refl _) hs, e3⟩
    rw [Nat.zero_add, cell_of_row w g k cur _ (0, 0) hg]
    rw [← ht, List.getElem?_take] at e1
    split at e1
    · simpa using e1
    · cases e1
theorem OwnRR.drew {w : World} {B lo hi : Nat} {v : Value} {mm : List (List Int)} (h : OwnRR w B lo hi v mm) : OwnRR w.drew B lo hi v mm := h
theorem RII.drew {w : World} {lo hi : Nat} {a : Option Addr} {mm : List (List Int)} (h : RII w lo hi a mm) : RII w.drew lo hi a mm := h
theorem Kp.drew {B lo hi : Nat} {w w' : World} (h : Kp B lo hi w w') : Kp B lo hi w w'.drew := ⟨h.os, h.tape, h.output, h.size, h.block⟩
theorem Kp.drew0 {B lo hi : Nat} {w w' : World} (h : Kp B lo hi w.drew w') : Kp B lo hi w w' := ⟨h.os, h.tape, h.output, h.size, h.block⟩

set_option maxRecDepth 100000 in
set_option maxHeartbeats 2000000 in
theorem s_without {s : List (List Int)} {a : Option Addr} {c lo hi k : Nat} {w : World} (hs : RII w lo hi a s) (hB : hi ≤ w.heap.size) (hsl : s.length ≤ 1048576) (hc : s.length ≤ c) (hk : k < s.length) :
    Calls Try.prog 95 #[.slice a s.length c, .int .i64 (k : Int)] w (fun e w' => ∃ a' c', e = .returned (.slice a' (s.eraseIdx k).length c') ∧ RIIc w' lo w'.heap.size a' c' (s.eraseIdx k) ∧ Below w.heap.size w w') := by
  obtain ⟨b, o, a0, c0, r0, ha, hlo, hhi, _⟩ := hs.at hk
  subst ha
  have hto := sliceToII (b := b) (o := o) (n := s.length) (c := c) (k := k) (z := (k : Int)) rfl (by omega)
  obtain ⟨o', ho', hfrom⟩ := sliceFromII (b := b) (o := o) (n := s.length) (c := c) (k := k + 1) (z := IntKind.i64.wrap ((k : Int) + 1)) (by rw [IntWalk.i64_in _ (by omega)]; omega) (by omega) hc
  have hst := (OwnRR.made w w.heap.size lo hi (Nat.le_refl _) (.inr hB)).drew
  have hbA := (Below.refl _ w).alloc (Nat.le_refl w.heap.size) (.cells #[] 23)
  have hs1 := (hs.below hbA hB).drew
  have HE : Hid (s.eraseIdx k = s.take k ++ s.drop (k + 1)) := List.eraseIdx_eq_take_drop_succ ..
  have HO := Lib.hid ho'
  have htl : k = (s.take k).length := by simp; omega
  have hdl : s.length - (k + 1) = (s.drop (k + 1)).length := by simp
  have HTL := Lib.hid htl
  have HDL := Lib.hid hdl
  have hwB : w.heap.size ≤ (w.alloc (.cells #[] 23)).drew.heap.size := by simp
  have hwh : hi ≤ (w.alloc (.cells #[] 23)).drew.heap.size := by simp; omega
  have hl0 : ([] : List (List Int)).length ≤ 1099511627776 := by simp
  have hl1 : (s.take k).length ≤ 1099511627776 := by simp; omega
  have hl2 : (s.drop (k + 1)).length ≤ 1099511627776 := by simp; omega
  clear ho' hs htl hdl
  go_enter Try.func95, Try.ntmps95
  go_wp2_with fail
  go_region_law ((first
    | (refine step_appRN (by rfl) _ _ (by rfl) w.heap.size lo hi _ [] (s.take k) (by rfl) hst hwB hwh ⟨b, o, none⟩ _ _ HTL.out (by rfl) (hs1.take k) hl0 hl1 ?_; intro v1 w1 hown1 hk1 _; rw [List.nil_append] at hown1; have hs2 := hs1.kp hk1 hwh; have hk1s := Nat.le_trans hwB hk1.size; have hk1h := Nat.le_trans hwh hk1.size; clear hst)
    | (refine step_appRN (by rfl) _ _ (by rfl) w.heap.size lo hi _ (s.take k) (s.drop (k + 1)) (by rfl) hown1 hk1s hk1h ⟨b, o', none⟩ _ _ HDL.out (by rfl) (hs2.drop HO.out) hl1 hl2 ?_; intro v2 w2 hown2 hk2 _)))
  have hbb : Below w.heap.size w w2 := ((hbA.trans (((Below.refl _ _).drew).trans (hk1.below hwB))).trans (hk2.below hk1s))
  have hw2 := Nat.le_trans hk1h hk2.size
  obtain ⟨a3, c3, rfl, h3⟩ := hown2.sliceU (by omega) hw2
  clear hown1 hown2 hk1 hk2
  go_wp2
  go_ret
  rw [HE.out]
  exact ⟨_, _, rfl, h3, hbb⟩

theorem NewI.none {w w' : World} {l : List Int} (h : l = []) (hb : Below w.heap.size w w') : NewI w l (.returned (.slice none 0 0)) w' := by
  subst h
  exact ⟨_, _, rfl, ⟨OI.nil _ _ _ _, Nat.zero_le _⟩, hb⟩

set_option maxRecDepth 100000 in
set_option maxHeartbeats 2000000 in
theorem s_SpareTests {m : List Int} {s : List (List Int)} {a a' : Option Addr} {c c' lo hi lo' hi' : Nat} {w : World} {t : Int} (hm : RI w lo hi a m) (hlm : m.length ≤ 9223372036854775807) (hs : RII w lo' hi' a' s) (hls : s.length ≤ 9223372036854775807) (hg : ∀ r ∈ s, r.length ≤ 9223372036854775807) (_ht0 : -9223372036854775808 ≤ t) (_ht1 : t ≤ 9223372036854775807) (hcap : s.length ≤ c') (hB : hi ≤ w.heap.size) (hB' : hi' ≤ w.heap.size) :
    Calls Try.prog 29 #[.slice a m.length c, .slice a' s.length c', .int .i64 t] w (NewI w (spL m s t)) := by
  have HG := Lib.hid hg; clear hg
  cases hc : okC m s t
  · have HC := Lib.hid hc; clear hc
    go_enter Try.func29, Try.ntmps29
    go_wp2_with fail
    refine (s_good hm hlm hs hls HG.out).mono ?_
    rintro e w1 ⟨rfl, hd⟩
    rw [HC.out]
    go_wp2
    go_ret
    exact NewI.none (sp_no HC.out) (Dr.below hd _)
  have hp := okC_parts hc
  have HR := Lib.hid hp.2.2.2
  have hsl := hp.2.2.1
  have ht := hp.2.1
  have HOK := Lib.hid hp.1
  have HC := Lib.hid hc; clear hc hp
  have HSP := Lib.hid (sp_yes HC.out)
  go_enter Try.func29, Try.ntmps29
  go_wp2_with fail
  refine (s_good hm hlm hs hls HG.out).mono ?_
  rintro e w1 ⟨rfl, hd⟩
  rw [HC.out]
  have hz1 := Dr.le hd
  obtain ⟨W, hW⟩ : ∃ W, w1.alloc (.cells #[] 3) = W := ⟨_, rfl⟩
  have hbA : Below w1.heap.size w1 W := by rw [← hW]; exact (Below.refl w1.heap.size w1).alloc (Nat.le_refl _) _
  have hst : OwnL W w1.heap.size (.slice (some ⟨w1.heap.size, 0, none⟩) 0 0) [] := by rw [← hW]; exact OwnL.made w1 w1.heap.size (Nat.le_refl _)
  have hm1 := (hm.dr hd).below hbA (by omega)
  have hs1 := (hs.dr hd).below hbA (by omega)
  have hsW := hbA.size
  go_wp2_with fail
  refine (s_missing HOK.out hm1 (by omega) hs1 (by omega) (by omega) HR.out ht.1 ht.2).mono ?_
  rintro e w2 ⟨a2, c2, rfl, _, hb2⟩
  obtain ⟨n, hn⟩ : ∃ n, (misL m s t).length = n := ⟨_, rfl⟩
  have HN := Lib.hid hn
  rw [hn]
  have hst2 := hst.below hb2
  have hb12 := hbA.trans (hb2.mono hsW)
  clear hn hst hb2 hbA hm1 hs1 hW
  go_wp2
  go_loopw [7, 9] (fun v i wr => ∃ k : Nat, k ≤ s.length ∧ i = .int .i64 k ∧ OwnL wr w1.heap.size v (spN m s t k) ∧ Below w1.heap.size w1 wr) (fun _ i _ => s.length - (intOf i).toNat)
  case atStart => exact ⟨0, Nat.zero_le _, rfl, by simpa [spN] using hst2, hb12⟩
  case round =>
    clear hst2 hb12
    obtain ⟨k, hk, rfl, hown, hBl⟩ := hrel
    have hsz := hBl.size
    by_cases hlt : k < s.length
    · have hm2 := (hm.dr hd).below hBl (by omega)
      have hs2 := (hs.dr hd).below hBl (by omega)
      have hkl := spN_len m s t k
      have HRE : Hid (∀ r ∈ s.eraseIdx k, r.length = m.length) := fun r h => HR.out r (List.mem_of_mem_eraseIdx h)
      have hel := List.length_eraseIdx_le s k
      go_wp2_with fail
      refine (s_without hs2 (by omega) (by omega) hcap hlt).mono ?_
      rintro e w3 ⟨a3, c3, rfl, h3, hb3⟩
      have hz3 := hb3.size
      have hown3 := hown.below hb3
      go_wp2_with fail
      refine (s_missing HOK.out (hm2.below hb3 (by omega)) (by omega) h3.rii (Nat.le_refl _) (by omega) HRE.out ht.1 ht.2).mono ?_
      rintro e w4 ⟨a4, c4, rfl, _, hb4⟩
      have hz4 := hb4.size
      have hown4 := hown3.below hb4
      have hBl4 := hBl.trans ((hb3.trans (hb4.mono hz3)).mono hsz)
      obtain ⟨q, hq⟩ : ∃ q, (misL m (s.eraseIdx k) t).length = q := ⟨_, rfl⟩
      have HQ := Lib.hid hq
      rw [hq]
      clear hq hown hown3 hb3 hb4 h3 hBl hm2 hs2 hel
      by_cases hqn : q = n
      · have HS := Lib.hid (spN_yes (show spF m s t k = true by unfold spF; rw [HQ.out, HN.out, hqn]; simp))
        have hcmp : ((q : Int) == (n : Int)) = true := by rw [beq_iff_eq]; omega
        clear hqn
        go_wp2_with (first
          | (at_builtin; refine wpList_app1 rfl _ _ rfl w1.heap.size _ (spN m s t k) rfl hown4 (k : Int) rfl (by omega) (by omega) ?_; intro v5 w5 hown5 hb5)
          | go_in)
        rw [← HS.out] at hown5
        have hBl5 := hBl4.trans hb5
        clear hown4 hb5 hBl4
        go_roundw
        case rel => exact ⟨k + 1, by omega, by go_num, hown5, hBl5⟩
        case measure => simp [intOf]; omega
      · have HS := Lib.hid (spN_no (show spF m s t k = false by unfold spF; rw [HQ.out, HN.out]; simp [hqn]))
        have hcmp : ((q : Int) == (n : Int)) = false := by rw [beq_eq_false_iff_ne]; omega
        rw [← HS.out] at hown4
        clear hqn
        go_wp2
        go_roundw
        case rel => exact ⟨k + 1, by omega, by go_num, hown4, hBl4⟩
        case measure => simp [intOf]; omega
    · have HKE : Hid (k = s.length) := by show _ = _; omega
      rw [HKE.out, ← HSP.out] at hown
      obtain ⟨a5, c5, rfl, h5⟩ := hown.slice
      go_wp2
      go_ret
      exact ⟨_, _, rfl, h5.wide (by omega) (Nat.le_refl _), (Dr.below hd w.heap.size).trans (hBl.mono (by omega))⟩

theorem OwnRR.nilU (w : World) (lo : Nat) : RIIc w lo w.heap.size none 0 [] := RIIc.nil _ _ _ _ _

set_option maxRecDepth 100000 in
set_option maxHeartbeats 2000000 in
theorem s_TrimSuite {m : List Int} {s : List (List Int)} {a a' : Option Addr} {c c' lo hi lo' hi' : Nat} {w : World} {t : Int} (hm : RI w lo hi a m) (hlm : m.length ≤ 9223372036854775807) (hs : RII w lo' hi' a' s) (hls : s.length ≤ 9223372036854775807) (hg : ∀ r ∈ s, r.length ≤ 9223372036854775807) (_ht0 : -9223372036854775808 ≤ t) (_ht1 : t ≤ 9223372036854775807) (hB : hi ≤ w.heap.size) (hB' : hi' ≤ w.heap.size) :
    Calls Try.prog 35 #[.slice a m.length c, .slice a' s.length c', .int .i64 t] w (GotII w (trL m s t)) := by
  have HG := Lib.hid hg; clear hg
  cases hc : okC m s t
  · have HC := Lib.hid hc; clear hc
    go_enter Try.func35, Try.ntmps35
    go_wp2_with fail
    refine (s_good hm hlm hs hls HG.out).mono ?_
    rintro e w1 ⟨rfl, hd⟩
    rw [HC.out]
    go_wp2
    go_ret
    exact GotII.none (tr_no HC.out) (Dr.below hd _)
  have hp := okC_parts hc
  have HR := Lib.hid hp.2.2.2
  have hsl := hp.2.2.1
  have ht := hp.2.1
  have HOK := Lib.hid hp.1
  have hm5 := okM_len hp.1
  have HC := Lib.hid hc; clear hc hp
  have HTR := Lib.hid (tr_yes HC.out)
  have HRN : Hid (∀ r ∈ s, r ≠ [] ∧ r.length ≤ 1048576) := by
    intro r hr
    have := HR.out r hr
    exact ⟨by intro e; rw [e] at this; simp at this; omega, by omega⟩
  go_enter Try.func35, Try.ntmps35
  go_wp2_with fail
  refine (s_good hm hlm hs hls HG.out).mono ?_
  rintro e w1 ⟨rfl, hd⟩
  rw [HC.out]
  have hz1 := Dr.le hd
  go_wp2_with fail
  refine (s_copySuite (hs.dr hd) (by omega) (by omega) HRN.out).mono ?_
  rintro e w2 ⟨ad2, c2, rfl, h2, hb2⟩
  have hz2 := hb2.size
  go_wp2_with fail
  refine (s_missing HOK.out ((hm.dr hd).below hb2 (by omega)) (by omega) ((hs.dr hd).below hb2 (by omega)) (by omega) (by omega) HR.out ht.1 ht.2).mono ?_
  rintro e w3 ⟨a3, c3, rfl, _, hb3⟩
  obtain ⟨n, hn⟩ : ∃ n, (misL m s t).length = n := ⟨_, rfl⟩
  have HN : Hid (misN m t s = n) := hn
  rw [hn]
  have h3 : RIIc w3 w1.heap.size w3.heap.size (some ad2) c2 s := ⟨(h2.rii.below hb3 (Nat.le_refl _)).wide (Nat.le_refl _) hb3.size, h2.cap⟩
  have hb13 := hb2.trans (hb3.mono hz2)
  clear hn h2 hb2 hb3
  go_wp2
  go_loopw [7, 9] (fun v i wr => ∃ (k : Nat) (ao : Option Addr) (co : Nat) (l : List (List Int)), k ≤ l.length ∧ l.length ≤ 20 ∧ (∃ z : Int, i = .int .i64 z ∧ z + 1 ≤ k ∧ k ≤ z + 1) ∧ v = .slice ao l.length co ∧ RIIc wr w1.heap.size wr.heap.size ao co l ∧ Below w1.heap.size w1 wr ∧ Hid (trG (misN m t) k l = trG (misN m t) s.length s ∧ misN m t l = n ∧ ∀ r ∈ l, r.length = m.length)) (fun _ i _ => (intOf i + 1).toNat)
  case atStart => exact ⟨s.length, some ad2, c2, s, Nat.le_refl _, hsl, ⟨_, rfl, by omega, by omega⟩, rfl, h3, hb13, rfl, HN.out, HR.out⟩
  case round =>
    clear h3 hb13
    obtain ⟨k, ao, co, l, hk, hl20, ⟨z, rfl, hz5, hz6⟩, rfl, hown, hBl, hI⟩ := hrel
    have hsz := hBl.size
    by_cases hlt : 0 < k
    · obtain ⟨j, rfl⟩ : ∃ j, k = j + 1 := ⟨k - 1, by omega⟩
      obtain rfl : z = (j : Int) := by omega
      clear hz5 hz6
      have hm2 := (hm.dr hd).below hBl (by omega)
      have HRE : Hid (∀ r ∈ l.eraseIdx j, r.length = m.length) := fun r h => hI.out.2.2 r (List.mem_of_mem_eraseIdx h)
      have hel := List.length_eraseIdx_le l j
      have hjl : j ≤ (l.eraseIdx j).length := by rw [List.length_eraseIdx_of_lt (by omega)]; omega
      have HT := Lib.hid (trG_step (misN m t) j l)
      go_wp2_with fail
      refine (s_without hown.rii (Nat.le_refl _) (by omega) hown.cap (by omega)).mono ?_
      rintro e w4 ⟨a4, c4, rfl, h4, hb4⟩
      have hz4 := hb4.size
      go_wp2_with fail
      refine (s_missing HOK.out (hm2.below hb4 (by omega)) (by omega) h4.rii (Nat.le_refl _) (by omega) HRE.out ht.1 ht.2).mono ?_
      rintro e w5 ⟨a5, c5, rfl, _, hb5⟩
      have hz5 := hb5.size
      have hown5 : RIIc w5 w1.heap.size w5.heap.size ao co l := ((hown.below hb4 (Nat.le_refl _)).below hb5 hz4).wide (Nat.le_refl _) (by omega)
      have h5 : RIIc w5 w1.heap.size w5.heap.size a4 c4 (l.eraseIdx j) := (h4.below hb5 (Nat.le_refl _)).wide (Nat.le_refl _) hz5
      have hBl5 := hBl.trans ((hb4.trans (hb5.mono hz4)).mono hsz)
      obtain ⟨q, hq⟩ : ∃ q, (misL m (l.eraseIdx j) t).length = q := ⟨_, rfl⟩
      have HQ : Hid (misN m t (l.eraseIdx j) = q) := hq
      rw [hq]
      clear hq hown hb4 hb5 h4 hBl hm2
      by_cases hqn : q = n
      · have HI2 : Hid (trG (misN m t) j (l.eraseIdx j) = trG (misN m t) s.length s ∧ misN m t (l.eraseIdx j) = n ∧ ∀ r ∈ l.eraseIdx j, r.length = m.length) := by
          refine ⟨?_, HQ.out.trans hqn, HRE.out⟩
          rw [← hI.out.1, HT.out, if_pos (by rw [HQ.out, hI.out.2.1, hqn])]
        have hcmp : ((q : Int) == (n : Int)) = true := by rw [beq_iff_eq]; omega
        clear hqn hown5
        go_wp2
        go_roundw
        case rel => exact ⟨j, a4, c4, l.eraseIdx j, by omega, by omega, ⟨_, rfl, by omega, by omega⟩, rfl, h5, hBl5, HI2⟩
        case measure => simp [intOf]
      · have HI2 : Hid (trG (misN m t) j l = trG (misN m t) s.length s ∧ misN m t l = n ∧ ∀ r ∈ l, r.length = m.length) := by
          refine ⟨?_, hI.out.2⟩
          rw [← hI.out.1, HT.out, if_neg (by rw [HQ.out, hI.out.2.1]; exact hqn)]
        have hcmp : ((q : Int) == (n : Int)) = false := by rw [beq_eq_false_iff_ne]; omega
        clear hqn h5
        go_wp2
        go_roundw
        case rel => exact ⟨j, ao, co, l, by omega, by omega, ⟨_, rfl, by omega, by omega⟩, rfl, hown5, hBl5, HI2⟩
        case measure => simp [intOf]
    · have HKE : Hid (l = trL m s t) := by
        have : k = 0 := by omega
        subst this
        show _ = _
        rw [HTR.out, ← hI.out.1]; rfl
      obtain rfl : z = -1 := by omega
      go_wp2
      go_ret
      rw [← HKE.out]
      exact ⟨_, _, rfl, hown.wide (by omega) (Nat.le_refl _), (Dr.below hd w.heap.size).trans (hBl.mono (by omega))⟩

end Go.Proofs.Ytcdhahdobegagaa
