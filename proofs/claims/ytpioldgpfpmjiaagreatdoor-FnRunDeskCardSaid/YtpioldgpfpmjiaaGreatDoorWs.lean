/- Walks: AllTests, by the model. -/
import Derived.Test.YtpioldgpfpmjiaaGreatDoorWq
import Derived.Test.YtpioldgpfpmjiaaGreatDoorWv
import Derived.Test.YtpioldgpfpmjiaaGreatDoorMath
namespace Go.Proofs.YtpioldgpfpmjiaaGreatDoor
open Go.RowKit

def ExtOK (m : List Int) (n : Nat) : Prop := ∀ (head : List Int) (a : Option Addr) (hd : Addr) (c c' lo hi lo' hi' : Nat) (w : World), head.length + n = m.length → RI w lo hi a m → hi ≤ w.heap.size → RI w lo' hi' (some hd) head → hi' ≤ w.heap.size →
    Calls Tryz.prog 39 #[.slice a m.length c, .slice (some hd) head.length c'] w (NewIIs w (extS m head))

set_option maxHeartbeats 4000000 in
theorem s_extend {m : List Int} (hok : okM m = true) : ∀ n, ExtOK m n := by
  have HOK := Lib.hid hok
  have hm5 := okM_len hok
  clear hok
  intro n
  induction n with
  | zero =>
    intro head a hd c c' lo hi lo' hi' w hn hm hB hh hB'
    have hhl : head.length ≤ m.length := by omega
    have HE : Hid (head.length = m.length) := by show _ = _; omega
    have hlen : ((head.length : Int) == (m.length : Int)) = true := by rw [beq_iff_eq]; omega
    clear hn
    have HP : Hid (extS m head = [head]) := extS_end HE.out
    have hst := OwnL.made w w.heap.size (Nat.le_refl _)
    have hhs := hh.below ((Below.refl _ w).alloc (Nat.le_refl _) (.cells #[] 3)) hB'
    go_enter Tryz.func39, Tryz.ntmps39
    go_wp2_with (at_builtin; refine wpList_appS rfl _ _ rfl w.heap.size _ [] rfl hst head lo' hi' c' _ rfl hhs (by simp) (by omega) (by simp) ?_; intro v' w1 hown1 hb1; simp only [List.nil_append] at hown1; obtain ⟨a1, c1, rfl, ho1⟩ := hown1.slice)
    go_ret
    rw [HP.out]
    have hB1 := ((Below.refl _ w).alloc (Nat.le_refl _) (.cells #[] 3)).trans hb1
    refine ⟨_, _, rfl, ?_, hB1.alloc hB1.size _⟩
    have h9 := OII.one (c := c1) (t := 45) ho1 hB1.size (Nat.le_refl _)
    exact ⟨by simpa using h9, by simp⟩
  | succ n ih =>
    intro head a hd c c' lo hi lo' hi' w hn hm hB hh hB'
    have hhm : head.length < m.length := by omega
    have HN := Lib.hid hn
    obtain ⟨b0, o0, y, ha0, hlo0, hhi0, hcell0, hy⟩ := hm.at hhm
    have hy3 := okM_at HOK.out hy.out
    have HP := Lib.hid (extS_step hy.out)
    have HS := Lib.hid (fun (hh : List Int) => patS_len HOK.out (head := hh) ((m.length : Int) - hh.length))
    have HK : Hid (∀ k, (extK m head k).length ≤ k * 1024) := by
      intro k
      induction k with
      | zero => simp [extK]
      | succ k ihk => rw [extK_succ, List.length_append, Nat.succ_mul]; have := HS.out (head ++ [(k : Int)]); unfold extS; omega
    have hlen : ((head.length : Int) == (m.length : Int)) = false := by rw [beq_eq_false_iff_ne]; omega
    have hidx0 := idxI ha0 hhm c
    have HC0 := Lib.hid hcell0
    have hst := OwnLL.made w w.heap.size (Nat.le_refl _)
    clear hn ha0
    go_enter Tryz.func39, Tryz.ntmps39
    go_wp2
    go_loopw [5, 6] (fun v i wr => ∃ k : Nat, k ≤ y.toNat ∧ i = .int .i64 k ∧ OwnLL wr w.heap.size v (extK m head k) ∧ Below w.heap.size w wr ∧ w.heap.size + 1 ≤ wr.heap.size ∧ Hid (v ≠ .slice none 0 0)) (fun _ i _ => y.toNat - (intOf i).toNat)
    case atStart => exact ⟨0, Nat.zero_le _, rfl, by simpa [extK] using hst, (Below.refl _ _).alloc (Nat.le_refl _) _, by simp, by simp [Hid]⟩
    case round =>
      clear hst hcell0
      obtain ⟨k, hk, rfl, hown, hBl, hsz, hnn⟩ := hrel
      have hcellr : wr.cell? ⟨b0, o0 + head.length, none⟩ = some (.int .i64 y) := (hBl.cell (p := ⟨b0, o0 + head.length, none⟩) (by show b0 < _; omega)).trans HC0.out
      have hm1 := hm.below hBl hB
      have hh1 := hh.below hBl hB'
      by_cases hlt : (k : Int) < y
      · have hstr := OwnL.made wr wr.heap.size (Nat.le_refl _)
        have hhs := hh1.below ((Below.refl wr.heap.size wr).alloc (Nat.le_refl _) (.cells #[] 3)) (by omega)
        have hkl : (extK m head k).length ≤ 1099511627776 := by have := HK.out k; omega
        have HL := Lib.hid (show ∀ l' : List Int, l' = head ++ [(k : Int)] → l'.length + n = m.length ∧ l' ≠ [] from fun l' e => by subst e; have := HN.out; simp; omega)
        go_wp2_with (first
          | (at_builtin; refine wpList_appS rfl (.tmp 28) (.tmp 29) rfl wr.heap.size _ [] rfl hstr head lo' hi' c' _ rfl hhs (by simp) (by omega) (by simp) ?_; intro v1 w1 hown1 hb1; have hb01 := chain1 hb1; have hs01 := hb01.size; simp only [List.nil_append] at hown1; clear hb1)
          | (at_builtin; refine wpList_app1 rfl (.tmp 30) (.tmp 32) rfl wr.heap.size _ head rfl hown1 (k : Int) rfl (by omega) hs01 ?_; intro v2 w2 hown2 hb2; have hb02 := hb01.trans hb2; have hs02 := hb02.size; obtain ⟨h2, EH2, hown2⟩ := named hown2; obtain ⟨ad2, c2, rfl, ho2⟩ := hown2.some (HL.out _ EH2.out).2; clear hown1 hb01 hs01 hb2 hown2)
          | (go_at_call 39; refine (ih h2 a ad2 c c2 lo hi wr.heap.size w2.heap.size w2 (HL.out _ EH2.out).1 (hm1.below hb02 (by omega)) (by omega) ho2.ri (Nat.le_refl _)).mono ?_; rintro e w3 ⟨ad3, c3, rfl, h3, hb3⟩; obtain ⟨A3, C3, G3, hf3, hc3⟩ := Fam.ofOII h3.oii)
          | (at_builtin; refine wpList_appLL (W0 := w2) rfl (.tmp 26) (.tmp 34) rfl w.heap.size _ (extK m head k) (extS m h2) rfl (hown.below hb02) hb3 (by omega) ad3 _ c3 rfl rfl A3 C3 G3 hf3 hc3 hkl (Nat.le_trans (HS.out h2) (by omega)) ?_; intro v4 w4 hown4 hb4 hnn4)
          | go_in)
        have hs3 := hb3.size
        have hBl4 := ((hBl.trans (hb02.mono (by omega))).trans (hb3.mono (by omega))).trans hb4
        have hs4 := hb4.size
        have HO : Hid (OwnLL w4 w.heap.size v4 (extK m head (k + 1))) := by show OwnLL _ _ _ _; rw [extK_succ, ← EH2.out]; exact hown4
        have hnn4' : Hid (v4 ≠ .slice none 0 0) := hnn4.out hnn.out
        clear hown4 hb4 hb3 hb02 hBl hown
        go_roundw
        case rel => exact ⟨k + 1, by omega, by go_num, HO.out, hBl4, by omega, hnn4'⟩
        case measure => simp [intOf]; omega
      · have HKY : Hid (k = y.toNat) := by show _ = _; omega
        go_wp2
        rw [HKY.out, ← HP.out] at hown
        obtain ⟨ad4, c4, rfl, ho4⟩ := hown.some hnn.out
        go_ret
        exact ⟨ad4, c4, rfl, ho4, hBl⟩

/- Walks: AllPatterns, AllTests of the program. -/
open Go.RowKit



end Go.Proofs.YtpioldgpfpmjiaaGreatDoor
