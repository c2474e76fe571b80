/- Walks: texts of patterns, written. -/
import Derived.Test.YtpioldgpfpmjiaaGreatDoorWc
import Derived.Test.YtpioldgpfpmjiaaGreatDoorOwn
namespace Go.Proofs.YtpioldgpfpmjiaaGreatDoor
open Go.RowKit

/-- A call that returns v and turns nothing that was there. -/
def NewV' (w : World) (v : Value) (e : Ending) (w' : World) : Prop := e = .returned v ∧ Below w.heap.size w w'
def dg (x : Int) : UInt8 := if x = -1 then 46 else if x = 0 then 48 else if x = 1 then 49 else 50
def txS (l : List Int) : ByteArray := ⟨(l.map dg).toArray⟩
theorem txS_size (l : List Int) : (txS l).size = l.length := by simp [txS, ByteArray.size]
theorem txS_snoc (l : List Int) (x : Int) : txS (l ++ [x]) = txS l ++ ⟨#[dg x]⟩ := by
  unfold txS
  apply ByteArray.ext
  simp

set_option maxHeartbeats 1000000 in
theorem s_digits {p : List Int} {a : Option Addr} {c lo hi : Nat} {w : World} (hp : RI w lo hi a p) (hl : p.length ≤ 5) (hx : ∀ (k : Nat) (x : Int), p[k]? = some x → -1 ≤ x ∧ x ≤ 2) :
    Calls Tryz.prog 21 #[.slice a p.length c] w (RO w (.string (txS p))) := by
  have HX := Lib.hid hx; clear hx
  go_enter Tryz.func21, Tryz.ntmps21
  go_wp2
  go_loopw [3, 4] (fun v i wr => ∃ (k : Nat) (s : ByteArray), k ≤ p.length ∧ i = .int .i64 k ∧ v = .string s ∧ s.size ≤ k ∧ Hid (s = txS (p.take k)) ∧ Dr w wr) (fun _ i _ => p.length - (intOf i).toNat)
  case atStart => exact ⟨0, _, Nat.zero_le _, rfl, rfl, by decide, by simp [Hid, txS], Dr.refl _⟩
  case round =>
    obtain ⟨k, s, hk, rfl, rfl, hs, hS, hd⟩ := hrel
    by_cases hlt : k < p.length
    · obtain ⟨b, o, x, ha, _, _, hcell, hx⟩ := (hp.dr hd).at hlt
      have hidx := idxI ha hlt c
      have hb := HX.out k x hx.out
      have HS2 : Hid (s ++ ⟨#[dg x]⟩ = txS (p.take (k + 1))) := by show _ = _; rw [take_snoc hx.out, txS_snoc, ← hS.out]
      have cs : x = -1 ∨ x = 0 ∨ x = 1 ∨ x = 2 := by omega
      clear ha hp
      rcases cs with rfl | rfl | rfl | rfl
      · have HS3 : Hid (s ++ ⟨#[46]⟩ = txS (p.take (k + 1))) := HS2
        clear HS2
        go_wp2
        go_roundw
        case rel => exact ⟨k + 1, _, by omega, by go_num, rfl, by rw [HS3.out, txS_size]; exact List.length_take_le _ _, HS3, hd⟩
        case measure => simp [intOf]; omega
      · have HS3 : Hid (s ++ (⟨#[48, 49, 50, 51, 52, 53, 54, 55, 56, 57]⟩ : ByteArray).extract 0 1 = txS (p.take (k + 1))) := by rw [show (⟨#[48, 49, 50, 51, 52, 53, 54, 55, 56, 57]⟩ : ByteArray).extract 0 1 = ⟨#[dg 0]⟩ from by decide]; exact HS2
        clear HS2
        go_wp2_with fail
        go_quiet (fail)
        go_wp2
        go_roundw
        case rel => exact ⟨k + 1, _, by omega, by go_num, rfl, by rw [HS3.out, txS_size]; exact List.length_take_le _ _, HS3, hd.drewN _⟩
        case measure => simp [intOf]; omega
      · have HS3 : Hid (s ++ (⟨#[48, 49, 50, 51, 52, 53, 54, 55, 56, 57]⟩ : ByteArray).extract 1 2 = txS (p.take (k + 1))) := by rw [show (⟨#[48, 49, 50, 51, 52, 53, 54, 55, 56, 57]⟩ : ByteArray).extract 1 2 = ⟨#[dg 1]⟩ from by decide]; exact HS2
        clear HS2
        go_wp2_with fail
        go_quiet (fail)
        go_wp2
        go_roundw
        case rel => exact ⟨k + 1, _, by omega, by go_num, rfl, by rw [HS3.out, txS_size]; exact List.length_take_le _ _, HS3, hd.drewN _⟩
        case measure => simp [intOf]; omega
      · have HS3 : Hid (s ++ (⟨#[48, 49, 50, 51, 52, 53, 54, 55, 56, 57]⟩ : ByteArray).extract 2 3 = txS (p.take (k + 1))) := by rw [show (⟨#[48, 49, 50, 51, 52, 53, 54, 55, 56, 57]⟩ : ByteArray).extract 2 3 = ⟨#[dg 2]⟩ from by decide]; exact HS2
        clear HS2
        go_wp2_with fail
        go_quiet (fail)
        go_wp2
        go_roundw
        case rel => exact ⟨k + 1, _, by omega, by go_num, rfl, by rw [HS3.out, txS_size]; exact List.length_take_le _ _, HS3, hd.drewN _⟩
        case measure => simp [intOf]; omega
    · go_wp2
      go_ret
      have h := hS.out
      rw [List.take_of_length_le (by omega)] at h
      exact ⟨by rw [← h]; rfl, hd⟩

/-- the text of a pattern of a model -/
def ptS (m p : List Int) : ByteArray := if okM m && okP m p then txS p else ⟨#[]⟩
theorem pt_yes {m p : List Int} (h : okM m = true) (h' : okP m p = true) : ptS m p = txS p := by unfold ptS; rw [h, h']; rfl
theorem pt_no {m p : List Int} (h : okM m = false ∨ okP m p = false) : ptS m p = ⟨#[]⟩ := by
  unfold ptS
  rcases h with h | h <;> rw [h] <;> simp
theorem pt_no' {m p : List Int} (h : (okM m && okP m p) = false) : ptS m p = ⟨#[]⟩ := by unfold ptS; rw [h]; rfl
theorem lv_of {m p : List Int} (h : okM m = true) (h' : okP m p = true) : ∀ (k : Nat) (x : Int), p[k]? = some x → -1 ≤ x ∧ x ≤ 2 := by
  intro k x hx
  have hl := okW_len h'
  have hk := lt_of_at hx
  obtain ⟨y, hy⟩ := at_of_lt (show k < m.length by omega)
  have h1 := okW_at h' hx hy
  have h2 := okM_at h hy
  omega

theorem undB : Tryz.prog.underlying 28 = some (.slice 5) := by kernel_rfl
theorem undU8 : Tryz.prog.underlying 5 = some (.int .u8) := by kernel_rfl
theorem undStr' : Tryz.prog.underlying 9 = some .string := by kernel_rfl
theorem sizeU8 (w : World) : (sizeOf 5).run Tryz.prog w = .ok 1 w := by kernel_rfl
theorem infoU8 : (Tryz.prog.info? 5).map (fun i => (i.zero, i.size, i.bytes)) = some (some (.int .u8 0), 1, 1) := by kernel_rfl
theorem idxB {a : Option Addr} {len k b o : Nat} (ha : a = some ⟨b, o, none⟩) (hk : k < len) (cap : Nat) (wx : World) :
    (Instr.indexAt 28 (.slice a len cap) (.int .i64 (k : Int))).run Tryz.prog wx = .ok (.pointer (some ⟨b, o + k, none⟩)) wx := idx_run undB sizeU8 ha hk cap wx
def dgI (x : Int) : Int := ((dg x).toNat : Int)
theorem strOf_tx (l : List Int) : strOfNums (l.map dgI) = txS l := by
  unfold strOfNums txS
  congr 2
  rw [List.map_map]
  apply List.map_congr_left
  intro x _
  simp [dgI]
/-- the bytes so far -/
def bts (p : List Int) (k : Nat) (i : Nat) : Value := .int .u8 (if i < k then dgI (p.getD i 0) else 0)
theorem bts_step {w : World} {b t k : Nat} {p : List Int} {x : Int} (h : w.rowIs b t p.length (bts p k)) (hx : p[k]? = some x) : (w.setCell ⟨b, k, none⟩ (.int .u8 (dgI x))).rowIs b t p.length (bts p (k + 1)) := by
  refine (h.set k _).congr fun i hi => ?_
  by_cases e : i = k
  · subst e; simp [bts, List.getD, hx]
  · simp only [e, if_false, bts]
    have : i < k + 1 ↔ i < k := by omega
    simp [this]
theorem bts_step2 {w : World} {b t k : Nat} {p : List Int} {x : Int} (v : Value) (h : w.rowIs b t p.length (bts p k)) (hx : p[k]? = some x) : ((w.setCell ⟨b, k, none⟩ v).setCell ⟨b, k, none⟩ (.int .u8 (dgI x))).rowIs b t p.length (bts p (k + 1)) := by
  refine ((h.set k v).set k _).congr fun i hi => ?_
  by_cases e : i = k
  · subst e; simp [bts, List.getD, hx]
  · simp only [e, if_false, bts]
    have : i < k + 1 ↔ i < k := by omega
    simp [this]

set_option maxHeartbeats 2000000 in
theorem i_PatternText {m p : List Int} {a a' : Option Addr} {c c' lo hi lo' hi' : Nat} {w : World} (hm : RI w lo hi a m) (hlm : m.length ≤ 9223372036854775807) (hp : RI w lo' hi' a' p) (hlp : p.length ≤ 9223372036854775807) (hb' : hi' ≤ w.heap.size) :
    Calls Tryz.prog 86 #[.slice a m.length c, .slice a' p.length c'] w (NewV' w (.string (ptS m p))) := by
  cases hop : (okM m && okP m p)
  · have HOP := Lib.hid hop; clear hop
    go_enter Tryz.func86, Tryz.ntmps86
    go_wp2_with fail
    refine (i_ValidPattern hm hlm hp hlp).mono ?_
    rintro e w1 ⟨rfl, hd⟩
    rw [HOP.out]
    go_wp2
    go_ret
    exact ⟨by rw [pt_no' HOP.out]; rfl, Dr.below hd _⟩
  have h0 : okM m = true ∧ okP m p = true := by simpa using hop
  have HOP := Lib.hid hop
  have h1 := okW_len h0.2
  have h5 := okM_len h0.1
  have hp5 : p.length ≤ 5 := by omega
  have HV := Lib.hid (lv_of h0.1 h0.2)
  have HT := Lib.hid (pt_yes h0.1 h0.2)
  have hmk := run_make_row' (P := Tryz.prog) 28 5 (.int .u8 0) 1 undB infoU8 rfl .i64 .i64 p.length (by omega) (by omega)
  clear h1 hop h0
  go_enter Tryz.func86, Tryz.ntmps86
  go_wp2_with fail
  refine (i_ValidPattern hm hlm hp hlp).mono ?_
  rintro e w0 ⟨rfl, hd⟩
  rw [HOP.out]
  have hd : Dr w w0 := hd
  have hz := Dr.le hd
  have hp0 := hp.dr hd
  have hS : (w0.alloc (.cells (madeCells #[.int .u8 0] p.length) 5)).rowIs w0.heap.size 5 p.length (bts p 0) := (World.rowIs_made w0 (.int .u8 0) p.length 5).congr fun i _ => by simp [bts]
  clear hm hp
  go_wp2
  go_loopw [17] (fun i wr => ∃ k : Nat, k ≤ p.length ∧ i = .int .i64 k ∧ wr.rowIs w0.heap.size 5 p.length (bts p k) ∧ Below w0.heap.size w0 wr) (fun i _ => p.length - (intOf i).toNat)
  case atStart => exact ⟨0, Nat.zero_le _, rfl, hS, (Below.refl _ _).alloc (Nat.le_refl _) _⟩
  case round =>
    clear hS hmk
    obtain ⟨k, hk, rfl, hR, hBl⟩ := hrel
    by_cases hlt : k < p.length
    · obtain ⟨b, o, x, ha, _, _, hcell, hx⟩ := (hp0.below hBl (by omega)).at hlt
      have hidx := idxI ha hlt c'
      have hidx2 := idxB (a := some ⟨w0.heap.size, 0, none⟩) rfl hlt p.length
      simp only [Nat.zero_add] at hidx2
      have hfr := hR.frozen k
      have hcl := hR.cell hlt
      have hb := HV.out k x hx.out
      have HS1 := Lib.hid (bts_step hR hx.out)
      have HS2 := Lib.hid (bts_step2 (.int .u8 46) hR hx.out)
      have HB1 := Lib.hid (fun v => hBl.setCell (p := ⟨w0.heap.size, k, none⟩) (Nat.le_refl _) v)
      have cs : x = -1 ∨ x = 0 ∨ x = 1 ∨ x = 2 := by omega
      clear ha hp0 hR hBl
      rcases cs with rfl | rfl | rfl | rfl
      · go_wp2
        go_roundw
        case rel => exact ⟨k + 1, by omega, by go_num, HS1.out, HB1.out _⟩
        case measure => simp [intOf]; omega
      · go_wp2
        go_roundw
        case rel => exact ⟨k + 1, by omega, by go_num, HS2.out, (HB1.out _).setCell (p := ⟨w0.heap.size, k, none⟩) (Nat.le_refl _) _⟩
        case measure => simp [intOf]; omega
      · go_wp2
        go_roundw
        case rel => exact ⟨k + 1, by omega, by go_num, HS2.out, (HB1.out _).setCell (p := ⟨w0.heap.size, k, none⟩) (Nat.le_refl _) _⟩
        case measure => simp [intOf]; omega
      · go_wp2
        go_roundw
        case rel => exact ⟨k + 1, by omega, by go_num, HS2.out, (HB1.out _).setCell (p := ⟨w0.heap.size, k, none⟩) (Nat.le_refl _) _⟩
        case measure => simp [intOf]; omega
    · have hcv := run_convert_bytes_arg (P := Tryz.prog) wr 28 5 undB undU8 w0.heap.size 0 p.length p.length (p.map dgI) (by simp)
        (fun i hi => by
          rw [Nat.zero_add, hR.cell hi]
          obtain ⟨x, hx⟩ := at_of_lt hi
          simp [bts, show i < k by omega, List.getD, hx]) 9 undStr'
      rw [strOf_tx] at hcv
      clear hR hp0
      go_wp2
      go_ret
      exact ⟨by rw [HT.out]; rfl, (Dr.below hd _).trans (hBl.mono (by omega))⟩

end Go.Proofs.YtpioldgpfpmjiaaGreatDoor
