/- Walks: texts measured, copied, held against each other. -/
import Derived.Test.YtpioldgpfpmjiaaGreatDoorKq
import Derived.Test.YtpioldgpfpmjiaaGreatDoorUx
import Derived.Deep.OwnRows
namespace Go.Proofs.YtpioldgpfpmjiaaGreatDoor
open Go.RowKit

theorem RSt.dr {w w' : World} {hi : Nat} {a : Option Addr} {X : List ByteArray} (h : RSt w hi a X) (hd : Dr w w') : RSt w' hi a X := h.below (Dr.below hd hi) (Nat.le_refl _)
theorem RSt.wide {w : World} {hi hi' : Nat} {a : Option Addr} {X : List ByteArray} (h : RSt w hi a X) (hh : hi ≤ hi') : RSt w hi' a X := fun k p e => by
  obtain ⟨b, o, ha, hl, hc⟩ := h k p e
  exact ⟨b, o, ha, by omega, hc⟩

set_option maxRecDepth 100000 in
set_option maxHeartbeats 1000000 in
theorem l_szStringS {X : List ByteArray} {a : Option Addr} {c hi : Nat} {w : World} (hX : RSt w hi a X) (hl : X.length ≤ 9223372036854775807) (hs : ∀ p ∈ X, p.size ≤ 9223372036854775807) :
    Calls Tryz.prog 5 #[.slice a X.length c, .int .i64 1048576] w (fun e w' => ∃ r : Int, e = .returned (.int .i64 r) ∧ Dr w w' ∧ (r = -1 ∨ (0 ≤ r ∧ r ≤ 1048576 ∧ X.length ≤ 1048576 ∧ Hid (∀ p ∈ X, p.size ≤ 1048576)))) := by
  by_cases h : 1048576 < X.length
  case pos =>
    go_enter Tryz.func5, Tryz.ntmps5
    go_wp2
    go_ret
    exact ⟨_, rfl, Dr.refl _, .inl rfl⟩
  have HG := Lib.hid hs; clear hs
  go_enter Tryz.func5, Tryz.ntmps5
  go_wp2
  go_loopw [1, 5] (fun v i wr => ∃ (k : Nat) (q : Int), k ≤ X.length ∧ i = .int .i64 k ∧ v = .int .i64 q ∧ 0 ≤ q ∧ q ≤ 1048576 ∧ Hid (∀ p ∈ X.take k, p.size ≤ 1048576) ∧ Dr w wr) (fun _ i _ => X.length - (intOf i).toNat)
  case atStart => exact ⟨0, _, Nat.zero_le _, rfl, rfl, by omega, by omega, by simp [Hid], Dr.refl _⟩
  case round =>
    obtain ⟨k, q, hk, rfl, rfl, hq0, hq1, hq, hd⟩ := hrel
    by_cases hlt : k < X.length
    · obtain ⟨p, hp⟩ := at_of_lt hlt
      obtain ⟨b, o, ha, hbl, hcell⟩ := (hX.dr hd) k p hp
      have hidx := idxSt ha hlt c
      have hps := HG.out p (List.mem_of_getElem? hp)
      by_cases hneg : q - p.size < 0
      · clear ha hX hp
        go_wp2
        go_ret
        exact ⟨_, rfl, hd, .inl rfl⟩
      · have HQ : Hid (∀ x ∈ X.take (k + 1), x.size ≤ 1048576) := by
          show ∀ x ∈ X.take (k + 1), _
          rw [take_snoc hp]
          intro x hx
          rcases List.mem_append.1 hx with h1 | h1
          · exact hq.out x h1
          · rw [List.mem_singleton.1 h1]; omega
        clear ha hX hp
        go_wp2
        go_roundw
        case rel => exact ⟨k + 1, _, by omega, by go_num, rfl, by omega, by omega, HQ, hd⟩
        case measure => simp [intOf]; omega
    · have h2 := hq.out
      rw [List.take_of_length_le (by omega)] at h2
      have HH := Lib.hid h2
      clear h2
      go_wp2
      go_ret
      exact ⟨q, rfl, hd, .inr ⟨hq0, hq1, by omega, HH⟩⟩

theorem rowS_step {w : World} {b t k : Nat} {X : List ByteArray} {x : ByteArray} (h : w.rowIs b t X.length (fun i => .string (if i < k then X.getD i ⟨#[]⟩ else ⟨#[]⟩))) (hx : X[k]? = some x) :
    (w.setCell ⟨b, k, none⟩ (.string x)).rowIs b t X.length (fun i => .string (if i < k + 1 then X.getD i ⟨#[]⟩ else ⟨#[]⟩)) := by
  refine (h.set k (.string x)).congr fun i hi => ?_
  by_cases e : i = k
  · subst e; simp [List.getD, hx]
  · simp only [e, if_false]
    have : i < k + 1 ↔ i < k := by omega
    simp [this]
theorem rowS_start (w : World) (n t : Nat) (X : List ByteArray) (hn : n = X.length) : (w.alloc (.cells (madeCells #[.string ⟨#[]⟩] n) t)).rowIs w.heap.size t X.length (fun i => .string (if i < 0 then X.getD i ⟨#[]⟩ else ⟨#[]⟩)) := by
  subst hn
  exact (World.rowIs_made w (.string ⟨#[]⟩) X.length t).congr fun i _ => by simp
theorem rowS_end {w : World} {b t k : Nat} {X : List ByteArray} (h : w.rowIs b t X.length (fun i => .string (if i < k then X.getD i ⟨#[]⟩ else ⟨#[]⟩))) (hk : X.length ≤ k) : RSt w (b + 1) (some ⟨b, 0, none⟩) X := fun j p hp => by
  have hj := lt_of_at hp
  refine ⟨b, 0, rfl, Nat.lt_succ_self _, ?_⟩
  rw [Nat.zero_add, h.cell hj, if_pos (by omega)]
  simp [List.getD, hp]

set_option maxRecDepth 100000 in
set_option maxHeartbeats 1000000 in
theorem l_toStringS {X : List ByteArray} {a : Option Addr} {c hi : Nat} {w : World} (hX : RSt w hi a X) (hB : hi ≤ w.heap.size) (hl : X.length ≤ 1048576) :
    Calls Tryz.prog 7 #[.slice a X.length c] w (fun e w' => e = .returned (.slice (some ⟨w.heap.size, 0, none⟩) X.length X.length) ∧ RSt w' (w.heap.size + 1) (some ⟨w.heap.size, 0, none⟩) X ∧ w.heap.size < w'.heap.size ∧ Below w.heap.size w w') := by
  have hmk := run_make_row' (P := Tryz.prog) 22 9 (.string ⟨#[]⟩) 16 undSt infoSt rfl .i64 .i64 X.length (by omega) (by omega)
  have hS := rowS_start w X.length 9 X rfl
  go_enter Tryz.func7, Tryz.ntmps7
  go_wp2
  go_loopw [4] (fun i wr => ∃ k : Nat, k ≤ X.length ∧ i = .int .i64 k ∧ wr.rowIs w.heap.size 9 X.length (fun i => .string (if i < k then X.getD i ⟨#[]⟩ else ⟨#[]⟩)) ∧ Below w.heap.size w wr) (fun i _ => X.length - (intOf i).toNat)
  case atStart => exact ⟨0, Nat.zero_le _, rfl, hS, (Below.refl _ _).alloc (Nat.le_refl _) _⟩
  case round =>
    obtain ⟨k, hk, rfl, hR, hBl⟩ := hrel
    by_cases hlt : k < X.length
    · obtain ⟨p, hp⟩ := at_of_lt hlt
      obtain ⟨b, o, ha, hbl, hcell⟩ := hX.below hBl hB k p hp
      have hidx := idxSt ha hlt c
      have hidx2 := idxSt (a := some ⟨w.heap.size, 0, none⟩) rfl hlt X.length
      simp only [Nat.zero_add] at hidx2
      have hfr := hR.frozen k
      have hcl := hR.cell hlt
      have hR2 := rowS_step hR hp
      have hBl2 := hBl.setCell (p := ⟨w.heap.size, k, none⟩) (Nat.le_refl _) (.string p)
      clear ha hX hR hBl hS hp
      go_wp2
      go_roundw
      case rel => exact ⟨k + 1, by omega, by go_num, hR2, hBl2⟩
      case measure => simp [intOf]; omega
    · have hR2 := rowS_end hR (by omega)
      have hlt2 := hR.lt
      clear hR
      go_wp2
      go_ret
      exact ⟨rfl, hR2, hlt2, hBl⟩

theorem strNeqY (s : ByteArray) : (s.toList != s.toList) = false := bne_self_eq_false _

set_option maxRecDepth 100000 in
set_option maxHeartbeats 1000000 in
theorem l_eqStringS {X : List ByteArray} {a a' : Option Addr} {c c' hi hi' : Nat} {w : World} (hX : RSt w hi a X) (hY : RSt w hi' a' X) (hl : X.length ≤ 1048576) :
    Calls Tryz.prog 9 #[.slice a X.length c, .slice a' X.length c'] w (RO w (.bool true)) := by
  have hne : ((X.length : Int) != (X.length : Int)) = false := bne_self_eq_false _
  go_enter Tryz.func9, Tryz.ntmps9
  go_wp2
  go_loopw [5] (fun i wr => ∃ k : Nat, k ≤ X.length ∧ i = .int .i64 k ∧ Dr w wr) (fun i _ => X.length - (intOf i).toNat)
  case atStart => exact ⟨0, Nat.zero_le _, rfl, Dr.refl _⟩
  case round =>
    obtain ⟨k, hk, rfl, hd⟩ := hrel
    by_cases hlt : k < X.length
    · obtain ⟨p, hp⟩ := at_of_lt hlt
      obtain ⟨b, o, ha, hbl, hcell⟩ := (hX.dr hd) k p hp
      obtain ⟨b', o', ha', hbl', hcell'⟩ := (hY.dr hd) k p hp
      have hidx := idxSt ha hlt c
      have hidx' := idxSt ha' hlt c'
      have hpp := strNeqY p
      clear ha ha' hX hY hp
      go_wp2_with fail
      go_quiet (fail)
      go_wp2
      go_roundw
      case rel => exact ⟨k + 1, by omega, by go_num, by first | exact hd.drewN _ | exact hd⟩
      case measure => simp [intOf]; omega
    · go_wp2
      go_ret
      exact hd.boolD rfl

end Go.Proofs.YtpioldgpfpmjiaaGreatDoor
