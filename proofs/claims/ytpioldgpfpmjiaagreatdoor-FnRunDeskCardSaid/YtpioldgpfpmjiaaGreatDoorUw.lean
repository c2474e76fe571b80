/- Texts of suites: plain facts; the text by the model. -/
import Derived.Test.YtpioldgpfpmjiaaGreatDoorWo
import Derived.Lib.Join
namespace Go.Proofs.YtpioldgpfpmjiaaGreatDoor
open Go Go.RowKit

theorem join_snoc {xs : List (List UInt8)} {y sep : List UInt8} (h : xs ≠ []) : Lib.join (xs ++ [y]) sep = Lib.join xs sep ++ sep ++ y := by
  cases xs with
  | nil => exact absurd rfl h
  | cons x r =>
    rw [List.cons_append, Lib.join_cons, Lib.join_cons]
    simp [Lib.joinTail, List.append_assoc]
/-- the text of a suite -/
def stT (ps : List (List Int)) : ByteArray := ⟨(Lib.join (ps.map fun p => p.map dg) [44]).toArray⟩
theorem stT_nil : stT [] = ⟨#[]⟩ := rfl
theorem stT_one (p : List Int) : stT [p] = txS p := by unfold stT txS; rw [List.map_cons, List.map_nil, Lib.join_one]
theorem stT_snoc {ps : List (List Int)} (h : ps ≠ []) (p : List Int) : stT (ps ++ [p]) = stT ps ++ ⟨#[44]⟩ ++ txS p := by
  unfold stT txS
  rw [List.map_append, List.map_cons, List.map_nil, join_snoc (by simpa using h)]
  apply ByteArray.ext
  simp
theorem stT_size : ∀ {ps : List (List Int)}, (∀ p ∈ ps, p.length ≤ 5) → (stT ps).size ≤ 6 * ps.length := by
  intro ps
  induction h : ps.length generalizing ps with
  | zero => intro _; rw [List.eq_nil_of_length_eq_zero h]; decide
  | succ n ih =>
    intro hp
    obtain ⟨qs, q, rfl⟩ : ∃ qs q, ps = qs ++ [q] := ⟨ps.dropLast, ps.getLast (by intro e; rw [e] at h; simp at h), (List.dropLast_concat_getLast _).symm⟩
    have hn : qs.length = n := by simp at h; exact h
    have h1 := ih hn fun p hp' => hp p (by simp [hp'])
    have h2 := hp q (by simp)
    by_cases h0 : qs = []
    · subst h0
      rw [List.nil_append, stT_one, txS_size]; omega
    · rw [stT_snoc h0, ByteArray.size_append, ByteArray.size_append, txS_size]
      have : (⟨#[44]⟩ : ByteArray).size = 1 := rfl
      omega

set_option maxRecDepth 100000 in
set_option maxHeartbeats 1000000 in
theorem s_suiteText {ps : List (List Int)} {a : Option Addr} {c lo hi : Nat} {w : World} (hm : RII w lo hi a ps) (hl : ps.length ≤ 24) (hr : ∀ p ∈ ps, p.length ≤ 5 ∧ ∀ (k : Nat) (x : Int), p[k]? = some x → -1 ≤ x ∧ x ≤ 2) :
    Calls Tryz.prog 22 #[.slice a ps.length c] w (RO w (.string (stT ps))) := by
  have HR := Lib.hid hr; clear hr
  go_enter Tryz.func22, Tryz.ntmps22
  go_wp2
  go_loopw [3, 4] (fun v i wr => ∃ (k : Nat) (s : ByteArray), k ≤ ps.length ∧ i = .int .i64 k ∧ v = .string s ∧ s.size ≤ 6 * k ∧ Hid (s = stT (ps.take k)) ∧ Dr w wr) (fun _ i _ => ps.length - (intOf i).toNat)
  case atStart => exact ⟨0, ⟨#[]⟩, Nat.zero_le _, rfl, rfl, by decide, rfl, Dr.refl _⟩
  case round =>
    obtain ⟨k, s, hk, rfl, rfl, hs, hS, hd⟩ := hrel
    by_cases hlt : k < ps.length
    · obtain ⟨b, o, a1, c1, r, ha, _, _, hcell, hr1, hx⟩ := (hm.dr hd).at hlt
      have hidx := idxII ha hlt c
      have hrw := HR.out r (List.mem_of_getElem? hx.out)
      have HRX := Lib.hid hrw.2
      have hr5 := hrw.1
      have hbs : b < wr.heap.size := World.block_lt_of_cell? wr _ hcell
      have hSZ : (stT (ps.take (k + 1))).size ≤ 6 * (k + 1) := by
        have h9 := stT_size (ps := ps.take (k + 1)) fun p hp => (HR.out p (List.mem_of_mem_take hp)).1
        rw [List.length_take] at h9; omega
      have HSZ := Lib.hid hSZ
      have HTX := Lib.hid (txS_size r)
      by_cases h0 : k = 0
      · have HS2 : Hid (s ++ txS r = stT (ps.take (k + 1))) := by
          show _ = _
          rw [take_snoc hx.out, hS.out, h0, List.take_zero, List.nil_append, stT_one, stT_nil]
          apply ByteArray.ext; simp
        have hg0 : decide (0 < (k : Int)) = false := decide_eq_false (by omega)
        have hg1 : decide (0 < k) = false := decide_eq_false (by omega)
        clear ha hx hrw h0 hSZ
        go_wp2_with fail
        refine (s_digits hr1 hr5 HRX.out).mono ?_
        rintro e w2 ⟨rfl, d2⟩
        obtain ⟨q, hq⟩ : ∃ q, txS r = q := ⟨_, rfl⟩
        have hqs : q.size ≤ 5 := by rw [← hq, HTX.out]; exact hr5
        rw [hq] at HS2
        rw [hq]
        have d2 : Dr wr w2 := d2
        clear hq
        go_wp2
        go_roundw
        case rel => exact ⟨k + 1, _, by omega, by go_num, rfl, by rw [HS2.out]; exact HSZ.out, HS2, hd.trans d2⟩
        case measure => simp [intOf]; omega
      · have HS2 : Hid (s ++ ⟨#[44]⟩ ++ txS r = stT (ps.take (k + 1))) := by
          show _ = _
          rw [take_snoc hx.out, hS.out, stT_snoc (by intro e; have := congrArg List.length e; rw [List.length_take, List.length_nil] at this; omega)]
        have hg0 : decide (0 < (k : Int)) = true := decide_eq_true (by omega)
        have hg1 : decide (0 < k) = true := decide_eq_true (by omega)
        clear ha hx hrw h0 hSZ
        go_wp2_with fail
        refine (s_digits hr1 hr5 HRX.out).mono ?_
        rintro e w2 ⟨rfl, d2⟩
        obtain ⟨q, hq⟩ : ∃ q, txS r = q := ⟨_, rfl⟩
        have hqs : q.size ≤ 5 := by rw [← hq, HTX.out]; exact hr5
        rw [hq] at HS2
        rw [hq]
        have d2 : Dr wr w2 := d2
        clear hq
        go_wp2
        go_roundw
        case rel => exact ⟨k + 1, _, by omega, by go_num, rfl, by rw [HS2.out]; exact HSZ.out, HS2, hd.trans d2⟩
        case measure => simp [intOf]; omega
    · go_wp2
      go_ret
      have h := hS.out
      rw [List.take_of_length_le (by omega)] at h
      exact ⟨by rw [← h]; rfl, hd⟩

end Go.Proofs.YtpioldgpfpmjiaaGreatDoor
