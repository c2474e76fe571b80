/- Walks: lists of patterns, by the model. -/
import Derived.Test.YtpioldgpfpmjiaaGreatDoorOwnL
import Derived.Test.YtpioldgpfpmjiaaGreatDoorMath
import Derived.Test.YtpioldgpfpmjiaaGreatDoorWa
namespace Go.Proofs.YtpioldgpfpmjiaaGreatDoor
open Go.RowKit

theorem Fam.ofOII {w : World} {lo hi : Nat} {ad : Addr} {mm : List (List Int)} (h : OII w lo hi (some ad) mm) :
    ∃ (A : Nat → Option Addr) (C G : Nat → Nat), Fam w lo hi A G mm ∧ ∀ k r, mm[k]? = some r → w.cell? (ad.add k) = some (.slice (A k) r.length (C k)) ∧ r.length ≤ C k := by
  rcases h with rfl | ⟨b, o, A, C, G, ha, h⟩
  · exact ⟨fun _ => none, fun _ => 0, fun _ => 0, Fam.nil _ _ _ _ _, by simp⟩
  · cases ha
    refine ⟨A, C, G, h.fam, fun k r e => ?_⟩
    have e6 : (⟨b, o, none⟩ : Addr).add k = ⟨b, o + k, none⟩ := by unfold Addr.add; split <;> simp_all
    rw [e6]; exact ⟨h.cell k r e, h.cap k r e⟩

set_option maxHeartbeats 2000000 in
theorem s_patterns_out {m head : List Int} {a : Option Addr} {hd : Addr} {c c' : Nat} {w : World} {t : Int} (_hl : m.length ≤ 5) (hhl : head.length ≤ m.length) (ht0 : -1 ≤ t) (ht1 : t ≤ 1099511627776) (hout : t < 0 ∨ (m.length : Int) - head.length < t) :
    Calls Tryz.prog 40 #[.slice a m.length c, .slice (some hd) head.length c', .int .i64 t] w (NewIIs w (patS m head t)) := by
  have HP := Lib.hid (patS_out hhl hout)
  have hfin : ∀ (W : World) (n : Nat), NewIIs w [] (.returned (.slice (some ⟨w.heap.size, 0, none⟩) 0 n)) (w.alloc (.cells #[] 45)) := fun _ n => ⟨_, n, rfl, OIIc.nil _ _ _ _ _, (Below.refl _ w).alloc (Nat.le_refl _) _⟩
  have HF := Lib.hid hfin
  clear hfin
  by_cases h0 : t < 0
  · go_enter Tryz.func40, Tryz.ntmps40
    go_wp2
    go_ret
    rw [HP.out]; exact HF.out w _
  · have h1 : (m.length : Int) - head.length < t := by omega
    go_enter Tryz.func40, Tryz.ntmps40
    go_wp2
    go_ret
    rw [HP.out]; exact HF.out w _

def PatsOK (m : List Int) (n : Nat) : Prop := ∀ (head : List Int) (a : Option Addr) (hd : Addr) (c c' lo hi lo' hi' : Nat) (w : World) (t : Int), head.length + n = m.length → RI w lo hi a m → hi ≤ w.heap.size → RI w lo' hi' (some hd) head → hi' ≤ w.heap.size → -1 ≤ t → t ≤ 1099511627776 →
    Calls Tryz.prog 40 #[.slice a m.length c, .slice (some hd) head.length c', .int .i64 t] w (NewIIs w (patS m head t))

theorem chain1 {wr w1 : World} {o : Obj} (h : Below wr.heap.size (wr.alloc o) w1) : Below wr.heap.size wr w1 := ((Below.refl wr.heap.size wr).alloc (Nat.le_refl _) o).trans h
theorem named {w : World} {B : Nat} {v : Value} {l : List Int} (h : OwnL w B v l) : ∃ l', Hid (l' = l) ∧ OwnL w B v l' := ⟨l, rfl, h⟩

set_option maxHeartbeats 4000000 in
theorem s_patterns {m : List Int} (hok : okM m = true) : ∀ n, PatsOK m n := by
  have HOK := Lib.hid hok
  have hm5 := okM_len hok
  clear hok
  intro n
  induction n with
  | zero =>
    intro head a hd c c' lo hi lo' hi' w t hn hm hB hh hB' ht0 ht1
    by_cases hout : t < 0 ∨ (m.length : Int) - head.length < t
    · exact s_patterns_out hm5.2 (by omega) ht0 ht1 hout
    have hhl : head.length ≤ m.length := by omega
    have hhm : m.length ≤ head.length := by omega
    have HE : Hid (head.length = m.length) := by show _ = _; omega
    obtain rfl : t = 0 := by omega
    clear hn hout
    have HP : Hid (patS m head 0 = [head]) := patS_end HE.out rfl
    have hst := OwnL.made w w.heap.size (Nat.le_refl _)
    have hhs := hh.below ((Below.refl _ w).alloc (Nat.le_refl _) (.cells #[] 3)) hB'
    have hlen : ((head.length : Int) == (m.length : Int)) = true := by rw [beq_iff_eq]; omega
    go_enter Tryz.func40, Tryz.ntmps40
    go_wp2_with (at_builtin; refine wpList_appS rfl _ _ rfl w.heap.size _ [] rfl hst head lo' hi' c' _ rfl hhs (by simp) (by omega) (by simp) ?_; intro v' w1 hown1 hb1; simp only [List.nil_append] at hown1; obtain ⟨a1, c1, rfl, ho1⟩ := hown1.slice)
    go_ret
    rw [HP.out]
    have hB1 := ((Below.refl _ w).alloc (Nat.le_refl _) (.cells #[] 3)).trans hb1
    refine ⟨_, _, rfl, ?_, hB1.alloc hB1.size _⟩
    have h9 := OII.one (c := c1) (t := 45) ho1 hB1.size (Nat.le_refl _)
    exact ⟨by simpa using h9, by simp⟩
  | succ n ih =>
    intro head a hd c c' lo hi lo' hi' w t hn hm hB hh hB' ht0 ht1
    by_cases hout : t < 0 ∨ (m.length : Int) - head.length < t
    · exact s_patterns_out hm5.2 (by omega) ht0 ht1 hout
    have h0 : 0 ≤ t := by omega
    have h1 : t ≤ (m.length : Int) - head.length := by omega
    have hhm : head.length < m.length := by omega
    have HN := Lib.hid hn
    obtain ⟨b0, o0, y, ha0, hlo0, hhi0, hcell0, hy⟩ := hm.at hhm
    have hy3 := okM_at HOK.out hy.out
    have HP := Lib.hid (patS_step hy.out h0 h1)
    have HK := Lib.hid (fun t k => patK_len HOK.out (head := head) t k)
    have HS := Lib.hid (fun t (hh : List Int) => patS_len HOK.out (head := hh) t)
    have hlen : ((head.length : Int) == (m.length : Int)) = false := by rw [beq_eq_false_iff_ne]; omega
    have hidx0 := idxI ha0 hhm c
    have HC0 := Lib.hid hcell0
    have hst := OwnLL.made w w.heap.size (Nat.le_refl _)
    have hdt0 : decide (t < 0) = false := by simp; exact h0
    have hdt1 : decide ((m.length : Int) - head.length < t) = false := by simp; exact h1
    clear hn hout ha0
    go_enter Tryz.func40, Tryz.ntmps40
    go_wp2
    go_loopw [7, 8] (fun v i wr => ∃ k : Nat, k ≤ y.toNat ∧ i = .int .i64 k ∧ OwnLL wr w.heap.size v (patK m head t k) ∧ Below w.heap.size w wr ∧ w.heap.size + 1 ≤ wr.heap.size ∧ Hid (v ≠ .slice none 0 0)) (fun _ i _ => y.toNat - (intOf i).toNat)
    case atStart => exact ⟨0, Nat.zero_le _, rfl, by simpa [patK] using hst, (Below.refl _ _).alloc (Nat.le_refl _) _, by simp, by simp [Hid]⟩
    case round =>
      clear hst hcell0
      obtain ⟨k, hk, rfl, hown, hBl, hsz, hnn⟩ := hrel
      have hcellr : wr.cell? ⟨b0, o0 + head.length, none⟩ = some (.int .i64 y) := (hBl.cell (p := ⟨b0, o0 + head.length, none⟩) (by show b0 < _; omega)).trans HC0.out
      have hm1 := hm.below hBl hB
      have hh1 := hh.below hBl hB'
      by_cases hlt : (k : Int) < y
      · have hstr := OwnL.made wr wr.heap.size (Nat.le_refl _)
        have hhs := hh1.below ((Below.refl wr.heap.size wr).alloc (Nat.le_refl _) (.cells #[] 3)) (by omega)
        have hkl : (patK m head t k).length ≤ 1099511627776 := by have := HK.out t k; omega
        have HL := Lib.hid (show ∀ l' : List Int, l' = head ++ [(k : Int)] → l'.length + n = m.length ∧ l' ≠ [] from fun l' e => by subst e; have := HN.out; simp; omega)
        go_wp2_with (first
          | (at_builtin; refine wpList_appS rfl (.tmp 42) (.tmp 43) rfl wr.heap.size _ [] rfl hstr head lo' hi' c' _ rfl hhs (by simp) (by omega) (by simp) ?_; intro v1 w1 hown1 hb1; have hb01 := chain1 hb1; have hs01 := hb01.size; simp only [List.nil_append] at hown1; clear hb1)
          | (at_builtin; refine wpList_app1 rfl (.tmp 44) (.tmp 46) rfl wr.heap.size _ head rfl hown1 (k : Int) rfl (by omega) hs01 ?_; intro v2 w2 hown2 hb2; have hb02 := hb01.trans hb2; have hs02 := hb02.size; obtain ⟨h2, EH2, hown2⟩ := named hown2; obtain ⟨ad2, c2, rfl, ho2⟩ := hown2.some (HL.out _ EH2.out).2; clear hown1 hb01 hs01 hb2 hown2)
          | (go_at_call 40; refine (ih h2 a ad2 c c2 lo hi wr.heap.size w2.heap.size w2 (t - 1) (HL.out _ EH2.out).1 (hm1.below hb02 (by omega)) (by omega) ho2.ri (Nat.le_refl _) (by omega) (by omega)).mono ?_; rintro e w3 ⟨ad3, c3, rfl, h3, hb3⟩; obtain ⟨A3, C3, G3, hf3, hc3⟩ := Fam.ofOII h3.oii)
          | (at_builtin; refine wpList_appLL (W0 := w2) rfl (.tmp 40) (.tmp 50) rfl w.heap.size _ (patK m head t k) (patS m h2 (t - 1)) rfl (hown.below hb02) hb3 (by omega) ad3 _ c3 rfl rfl A3 C3 G3 hf3 hc3 hkl (Nat.le_trans (HS.out (t - 1) h2) (by omega)) ?_; intro v4 w4 hown4 hb4 hnn4)
          | go_in)
        have hs3 := hb3.size
        have hBl4 := ((hBl.trans (hb02.mono (by omega))).trans (hb3.mono (by omega))).trans hb4
        have hs4 := hb4.size
        have HO : Hid (OwnLL w4 w.heap.size v4 (patK m head t (k + 1))) := by show OwnLL _ _ _ _; rw [patK_succ, ← EH2.out]; exact hown4
        have hnn4' : Hid (v4 ≠ .slice none 0 0) := hnn4.out hnn.out
        clear hown4 hb4 hb3 hb02 hBl hown
        go_roundw
        case rel => exact ⟨k + 1, by omega, by go_num, HO.out, hBl4, by omega, hnn4'⟩
        case measure => simp [intOf]; omega
      · have HKY : Hid (k = y.toNat) := by show _ = _; omega
        have hstr := OwnL.made wr wr.heap.size (Nat.le_refl _)
        have hhs := hh1.below ((Below.refl wr.heap.size wr).alloc (Nat.le_refl _) (.cells #[] 3)) (by omega)
        have hkl : (patK m head t k).length ≤ 1099511627776 := by have := HK.out t k; omega
        have HL := Lib.hid (show ∀ l' : List Int, l' = head ++ [(-1 : Int)] → l'.length + n = m.length ∧ l' ≠ [] from fun l' e => by subst e; have := HN.out; simp; omega)
        go_wp2_with (first
          | (at_builtin; refine wpList_appS rfl (.tmp 54) (.tmp 55) rfl wr.heap.size _ [] rfl hstr head lo' hi' c' _ rfl hhs (by simp) (by omega) (by simp) ?_; intro v1 w1 hown1 hb1; have hb01 := chain1 hb1; have hs01 := hb01.size; simp only [List.nil_append] at hown1; clear hb1)
          | (at_builtin; refine wpList_app1 rfl (.tmp 56) (.tmp 57) rfl wr.heap.size _ head rfl hown1 (-1 : Int) rfl (by omega) hs01 ?_; intro v2 w2 hown2 hb2; have hb02 := hb01.trans hb2; have hs02 := hb02.size; obtain ⟨h2, EH2, hown2⟩ := named hown2; obtain ⟨ad2, c2, rfl, ho2⟩ := hown2.some (HL.out _ EH2.out).2; clear hown1 hb01 hs01 hb2 hown2)
          | (go_at_call 40; refine (ih h2 a ad2 c c2 lo hi wr.heap.size w2.heap.size w2 t (HL.out _ EH2.out).1 (hm1.below hb02 (by omega)) (by omega) ho2.ri (Nat.le_refl _) (by omega) (by omega)).mono ?_; rintro e w3 ⟨ad3, c3, rfl, h3, hb3⟩; obtain ⟨A3, C3, G3, hf3, hc3⟩ := Fam.ofOII h3.oii)
          | (at_builtin; refine wpList_appLL (W0 := w2) rfl (.tmp 52) (.tmp 60) rfl w.heap.size _ (patK m head t k) (patS m h2 t) rfl (hown.below hb02) hb3 (by omega) ad3 _ c3 rfl rfl A3 C3 G3 hf3 hc3 hkl (Nat.le_trans (HS.out t h2) (by omega)) ?_; intro v4 w4 hown4 hb4 hnn4)
          | go_in)
        have hs3 := hb3.size
        have hBl4 := ((hBl.trans (hb02.mono (by omega))).trans (hb3.mono (by omega))).trans hb4
        rw [EH2.out, HKY.out, ← HP.out] at hown4
        obtain ⟨ad4, c4, rfl, ho4⟩ := hown4.some (hnn4.out hnn.out)
        go_ret
        exact ⟨ad4, c4, rfl, ho4, hBl4⟩

/- Walks: AllPatterns and AllTests, by the model. -/
open Go.RowKit

/-- all patterns of a model and a strength; none where there is no such thing -/
theorem NewII.none {w w' : World} {l : List (List Int)} (h : l = []) (hb : Below w.heap.size w w') : NewII w l (.returned (.slice none 0 0)) w' := by
  subst h
  exact ⟨_, _, rfl, OIIc.nil _ _ _ _ _, hb⟩

end Go.Proofs.YtpioldgpfpmjiaaGreatDoor
