/- Walks: copies of suites. -/
import Derived.Test.YtpioldgpfpmjiaaGreatDoorWs
namespace Go.Proofs.YtpioldgpfpmjiaaGreatDoor
open Go.RowKit

theorem RI.addr {w : World} {lo hi : Nat} {a : Option Addr} {r : List Int} (h : RI w lo hi a r) (h0 : r ≠ []) : ∃ ad, a = some ad := by
  obtain ⟨b, o, e, _⟩ := h 0 (by cases r with | nil => exact absurd rfl h0 | cons _ _ => simp)
  exact ⟨_, e⟩
/-- make([][]int, 0, N) -/
theorem make0 {N : Nat} (hN : N ≤ 1048576) (wx : World) : (Instr.makeSlice 49 (.int .i64 0) (.int .i64 (N : Int))).run Tryz.prog wx = .ok (.slice (some ⟨wx.heap.size, 0, none⟩) 0 N) (wx.alloc (.cells (madeCells #[.slice none 0 0] N) 45)) := by
  obtain ⟨inf, hinf, hzz⟩ := Option.map_eq_some_iff.1 infoI
  simp only [Prod.mk.injEq] at hzz
  obtain ⟨hz, hsz, hby⟩ := hzz
  have h := run_makeSlice (P := Tryz.prog) (w := wx) 49 45 inf (.slice none 0 0) undII hinf hz .i64 .i64 0 (N : Int) (by omega) (by omega) (by rw [hsz]; omega) (by rw [hby]; omega) (by omega)
  simpa [hsz, Value.cells] using h

/-- a call that makes a slice of slices of numbers that may be appended to -/
def NewLL (w : World) (mm : List (List Int)) (e : Ending) (w' : World) : Prop := ∃ v, e = .returned v ∧ OwnLL w' w.heap.size v mm ∧ Hid (v ≠ .slice none 0 0) ∧ Below w.heap.size w w'
theorem NewLL.iis {w w' : World} {mm : List (List Int)} {e : Ending} (h : NewLL w mm e w') : NewIIs w mm e w' := by
  obtain ⟨v, rfl, ho, hn, hb⟩ := h
  obtain ⟨ad, c, rfl, h2⟩ := ho.some hn.out
  exact ⟨ad, c, rfl, h2, hb⟩

set_option maxRecDepth 100000 in
set_option maxHeartbeats 2000000 in
theorem s_copySuiteL {s : List (List Int)} {a : Option Addr} {c lo hi : Nat} {w : World} (hs : RII w lo hi a s) (hB : hi ≤ w.heap.size) (hsl : s.length ≤ 1048576) (hr : ∀ r ∈ s, r ≠ [] ∧ r.length ≤ 1048576) :
    Calls Tryz.prog 44 #[.slice a s.length c] w (NewLL w s) := by
  have HR := Lib.hid hr; clear hr
  have hst := OwnLL.made w w.heap.size (Nat.le_refl _)
  go_enter Tryz.func44, Tryz.ntmps44
  go_wp2
  go_loopw [3, 4] (fun v i wr => ∃ k : Nat, k ≤ s.length ∧ i = .int .i64 k ∧ OwnLL wr w.heap.size v (s.take k) ∧ Below w.heap.size w wr ∧ w.heap.size < wr.heap.size ∧ Hid (v ≠ .slice none 0 0)) (fun _ i _ => s.length - (intOf i).toNat)
  case atStart => exact ⟨0, Nat.zero_le _, rfl, by simpa using hst, (Below.refl _ _).alloc (Nat.le_refl _) _, by simp, by show _ ≠ _; simp⟩
  case round =>
    clear hst
    obtain ⟨k, hk, rfl, hown, hBl, hsz, hnn⟩ := hrel
    by_cases hlt : k < s.length
    · obtain ⟨b, o, a1, c1, r, ha, _, hbh, hcell, hr1, hx⟩ := (hs.below hBl hB).at hlt
      have hidx := idxII ha hlt c
      have HR0 := Lib.hid (HR.out r (List.mem_of_getElem? hx.out))
      have hrl := HR0.out.2
      obtain ⟨ad1, rfl⟩ := hr1.addr HR0.out.1
      have hbA := (Below.refl wr.heap.size wr).alloc (Nat.le_refl _) (.cells #[] 3)
      have hcell2 := (hbA.cell (p := ⟨b, o + k, none⟩) (by show b < _; omega)).trans hcell
      have hstr := OwnL.made wr wr.heap.size (Nat.le_refl _)
      have hhs := hr1.below hbA (by omega)
      have hkl : (s.take k).length ≤ 1099511627776 := by simp; omega
      clear ha hbA hs
      go_wp2_with (first
        | (at_builtin; refine wpList_appS rfl (.tmp 13) (.tmp 17) rfl wr.heap.size _ [] rfl hstr r lo hi c1 ad1 rfl hhs (by simp) (by omega) (by simp) ?_; intro v1 w1 hown1 hb1; have hb01 := chain1 hb1; have hs01 := hb01.size; simp only [List.nil_append] at hown1; obtain ⟨a2, c2, rfl, ho2⟩ := hown1.slice; have hO := OII.oneN (t := 45) (c := c2) rfl ho2 hs01 (Nat.le_refl _); have hb3 := hb01.alloc hs01 (.cells #[.slice a2 r.length c2] 45); obtain ⟨A3, C3, G3, hf3, hc3⟩ := Fam.ofOII hO; clear hown1 hb1 hO hcell hcell2 hstr hhs hr1)
        | (at_builtin; refine wpList_appLL (W0 := wr) rfl (.tmp 12) (.tmp 19) rfl w.heap.size _ (s.take k) [r] rfl hown hb3 (by omega) ⟨w1.heap.size, 0, none⟩ 1 1 rfl rfl A3 C3 G3 hf3 hc3 hkl (by simp) ?_; intro v4 w4 hown4 hb4 hnn4)
        | go_in)
      have HO : Hid (OwnLL w4 w.heap.size v4 (s.take (k + 1))) := by show OwnLL _ _ _ _; rw [take_snoc hx.out]; exact hown4
      have hs3 := hb3.size
      have hs4 := hb4.size
      have hBl4 := (hBl.trans (hb3.mono (by omega))).trans hb4
      have hnn4' : Hid (v4 ≠ .slice none 0 0) := hnn4.out hnn.out
      clear hown4 hb4 hb3 hBl hown hf3 hc3
      go_roundw
      case rel => exact ⟨k + 1, by omega, by go_num, HO.out, hBl4, by omega, hnn4'⟩
      case measure => simp [intOf]; omega
    · have HKE : Hid (s.take k = s) := List.take_of_length_le (by omega)
      go_wp2
      rw [HKE.out] at hown
      go_ret
      exact ⟨_, rfl, hown, hnn, hBl⟩

theorem s_copySuite {s : List (List Int)} {a : Option Addr} {c lo hi : Nat} {w : World} (hs : RII w lo hi a s) (hB : hi ≤ w.heap.size) (hsl : s.length ≤ 1048576) (hr : ∀ r ∈ s, r ≠ [] ∧ r.length ≤ 1048576) :
    Calls Tryz.prog 44 #[.slice a s.length c] w (NewIIs w s) := (s_copySuiteL hs hB hsl hr).mono fun _ _ h => h.iis

set_option maxRecDepth 100000 in
set_option maxHeartbeats 2000000 in
theorem i_copyListsL {s : List (List Int)} {a : Option Addr} {c lo hi : Nat} {w : World} (hs : RII w lo hi a s) (hB : hi ≤ w.heap.size) (hsl : s.length ≤ 1048576) (hr : ∀ r ∈ s, r ≠ [] ∧ r.length ≤ 1048576) :
    Calls Tryz.prog 90 #[.slice a s.length c] w (NewLL w s) := by
  have HR := Lib.hid hr; clear hr
  have hst := OwnLL.room w w.heap.size s.length 45 rfl (Nat.le_refl _) (by unfold maxLen; omega)
  have hmk := make0 hsl
  go_enter Tryz.func90, Tryz.ntmps90
  go_wp2
  go_loopw [3, 11] (fun v i wr => ∃ k : Nat, k ≤ s.length ∧ i = .int .i64 k ∧ OwnLL wr w.heap.size v (s.take k) ∧ Below w.heap.size w wr ∧ w.heap.size < wr.heap.size ∧ Hid (v ≠ .slice none 0 0)) (fun _ i _ => s.length - (intOf i).toNat)
  case atStart => exact ⟨0, Nat.zero_le _, rfl, by simpa using hst, (Below.refl _ _).alloc (Nat.le_refl _) _, by simp, by show _ ≠ _; simp⟩
  case round =>
    clear hst hmk
    obtain ⟨k, hk, rfl, hown, hBl, hsz, hnn⟩ := hrel
    by_cases hlt : k < s.length
    · obtain ⟨b, o, a1, c1, r, ha, _, hbh, hcell, hr1, hx⟩ := (hs.below hBl hB).at hlt
      have hidx := idxII ha hlt c
      have HR0 := Lib.hid (HR.out r (List.mem_of_getElem? hx.out))
      have hrl := HR0.out.2
      have hkl : (s.take k).length ≤ 1099511627776 := by simp; omega
      clear ha hs
      go_wp2_with fail
      refine (x_CloneI hr1 (by omega) HR0.out.1 hrl).mono ?_
      rintro e w1 ⟨a2, c2, rfl, ho2, hb01⟩
      have hs01 := hb01.size
      have hO := OII.oneN (t := 45) (c := c2) rfl ho2 hs01 (Nat.le_refl _)
      have hb3 := hb01.alloc hs01 (.cells #[.slice a2 r.length c2] 45)
      obtain ⟨A3, C3, G3, hf3, hc3⟩ := Fam.ofOII hO
      clear hO hcell hr1 hb01 ho2
      go_wp2_with (first
        | (at_builtin; refine wpList_appLL (W0 := wr) rfl (.tmp 15) (.tmp 18) rfl w.heap.size _ (s.take k) [r] rfl hown hb3 (by omega) ⟨w1.heap.size, 0, none⟩ 1 1 rfl rfl A3 C3 G3 hf3 hc3 hkl (by simp) ?_; intro v4 w4 hown4 hb4 hnn4)
        | go_in)
      have HO : Hid (OwnLL w4 w.heap.size v4 (s.take (k + 1))) := by show OwnLL _ _ _ _; rw [take_snoc hx.out]; exact hown4
      have hs3 := hb3.size
      have hs4 := hb4.size
      have hBl4 := (hBl.trans (hb3.mono (by omega))).trans hb4
      have hnn4' : Hid (v4 ≠ .slice none 0 0) := hnn4.out hnn.out
      clear hown4 hb4 hb3 hBl hown hf3 hc3
      go_roundw
      case rel => exact ⟨k + 1, by omega, by go_num, HO.out, hBl4, by omega, hnn4'⟩
      case measure => simp [intOf]; omega
    · have HKE : Hid (s.take k = s) := List.take_of_length_le (by omega)
      go_wp2
      rw [HKE.out] at hown
      go_ret
      exact ⟨_, rfl, hown, hnn, hBl⟩

theorem i_copyLists {s : List (List Int)} {a : Option Addr} {c lo hi : Nat} {w : World} (hs : RII w lo hi a s) (hB : hi ≤ w.heap.size) (hsl : s.length ≤ 1048576) (hr : ∀ r ∈ s, r ≠ [] ∧ r.length ≤ 1048576) :
    Calls Tryz.prog 90 #[.slice a s.length c] w (NewIIs w s) := (i_copyListsL hs hB hsl hr).mono fun _ _ h => h.iis

end Go.Proofs.YtpioldgpfpmjiaaGreatDoor
