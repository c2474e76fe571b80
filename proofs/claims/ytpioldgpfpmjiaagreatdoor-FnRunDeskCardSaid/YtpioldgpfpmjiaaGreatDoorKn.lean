/- Walks: models and suites that are drawn, with their levels; texts that are drawn and mutated. -/
import Derived.Test.YtpioldgpfpmjiaaGreatDoorRl
import Derived.Deep.RegionWith
namespace Go.Proofs.YtpioldgpfpmjiaaGreatDoor
open Go.RowKit

/-- levels 1 to 3, n of them at most -/
def MdJ (n : Nat) (l : List Int) : Prop := l.length ≤ n ∧ ∀ x ∈ l, 1 ≤ x ∧ x ≤ 3
theorem MdJ.ok {n : Nat} {l : List Int} (h : MdJ n l) (h0 : 1 ≤ l.length) (h5 : n ≤ 5) : okM l = true := by
  refine okM_mk h0 (Nat.le_trans h.1 h5) ?_
  rw [List.all_eq_true]
  exact fun x hx => inR_true.2 (h.2 x hx)

theorem MdJ.lp {n : Nat} {l : List Int} (h : MdJ n l) (h5 : n ≤ 5) : LP 5 l := ⟨Nat.le_trans h.1 h5, fun x hx => by have := h.2 x hx; omega⟩

set_option maxRecDepth 100000 in
set_option maxHeartbeats 2000000 in
theorem s_smallModelJ {b K : Nat} {w : World} (hr : Rdr w b K) (hK : K ≤ 1000000) :
    Calls Tryz.prog 19 #[.pointer (some ⟨b, 0, none⟩)] w (Dl w b (K + 6) w.heap.size (fun l => okM l = true ∧ LP 5 l)) := by
  have hlt := hr.lt
  obtain ⟨W1, hW1⟩ : ∃ W, w.alloc (.cells #[] 3) = W := ⟨_, rfl⟩
  have hb1 : Below w.heap.size w W1 := by rw [← hW1]; exact (Below.refl w.heap.size w).alloc (Nat.le_refl _) _
  have hs1 : w.heap.size + 1 ≤ W1.heap.size := by rw [← hW1]; simp
  have ho1 : OwnL W1 w.heap.size (.slice (some ⟨w.heap.size, 0, none⟩) 0 0) [] := by rw [← hW1]; exact OwnL.made w w.heap.size (Nat.le_refl _)
  have hb2 := (Below.refl W1.heap.size W1).alloc (Nat.le_refl _) (.cells #[.int .i64 2, .int .i64 3, .int .i64 2, .int .i64 1] 3)
  go_enter Tryz.func19, Tryz.ntmps19
  go_wp2_with fail
  refine (s_one ((hr.below hb1 hlt).below hb2 (by omega)) (by omega) (litW W1 _ [2, 3, 2, 1] rfl) (by simp) (by simp) (.inr (by omega)) (by simp)).mono ?_
  rintro e w2 ⟨n, rfl, hn, hr2, hu2⟩
  have hn5 : 1 ≤ n ∧ n ≤ 3 := by simp at hn; omega
  have ho2 := (ho1.same fun g _ h2 => hb2.block g h2).upd hu2 hlt
  have hU2 : UpB b w.heap.size w w2 := (((UpB.refl b w.heap.size w).below hb1 (Nat.le_refl _)).below hb2 (by omega)).upd hu2
  have hs2 := hU2.size
  clear hr hb1 hb2 ho1 hu2 hn hs1
  go_wp2
  go_loopw [3] (fun v wr => ∃ (a : Option Addr) (c : Nat) (l : List Int), v = .slice a l.length c ∧ OwnL wr w.heap.size (.slice a l.length c) l ∧ MdJ n.toNat l ∧ Rdr wr b (K + 1 + l.length) ∧ UpB b w.heap.size w wr) (fun v _ => n.toNat - lenV v)
  case atStart => exact ⟨_, _, [], rfl, ho2, ⟨Nat.zero_le _, by simp⟩, hr2, hU2⟩
  case round =>
    clear ho2 hr2 hU2
    obtain ⟨a, c, l, rfl, ho, hL, hr, hU⟩ := hrel
    have hl1 := hL.1
    have hlw := hr.lt
    have hszr := hU.size
    have HL := Lib.hid hL
    clear hL hW1
    by_cases hlt2 : (l.length : Int) < n
    · have hb3 := (Below.refl wr.heap.size wr).alloc (Nat.le_refl _) (.cells #[.int .i64 2, .int .i64 2, .int .i64 3, .int .i64 1] 3)
      go_wp2_with fail
      refine (s_one (hr.below hb3 hlw) (by omega) (litW wr _ [2, 2, 3, 1] rfl) (by simp) (by simp) (.inr hlw) (by simp)).mono ?_
      rintro e w3 ⟨x, rfl, hx, hr3, hu3⟩
      have hx3 : 1 ≤ x ∧ x ≤ 3 := by simp at hx; omega
      have ho3 := (ho.same fun g _ h2 => hb3.block g h2).upd hu3 hlt
      have hU3 := (hU.below hb3 (by omega)).upd hu3
      have hs3 := hU3.size
      clear ho hr hU hu3 hx hb3
      go_wp2_with (first
        | (at_builtin; refine wpList_app1 rfl _ _ rfl w.heap.size _ l rfl ho3 x rfl (by omega) hs3 ?_; intro v4 w4 ho4 hb4)
        | go_in)
      obtain ⟨a4, c4, rfl, _⟩ := ho4.slice
      have hr4 := hr3.below hb4 hlt
      have hU4 := hU3.below hb4 (Nat.le_refl _)
      have HL4 : Hid (MdJ n.toNat (l ++ [x])) := ⟨by simp; omega, fun y hy => by rcases List.mem_append.1 hy with hy | hy; exact HL.out.2 y hy; rw [List.mem_singleton] at hy; rw [hy]; exact hx3⟩
      clear ho3 hr3 hU3 hb4
      go_roundw
      case rel => exact ⟨a4, c4, l ++ [x], rfl, ho4, HL4.out, hr4.mono (by simp; omega), hU4⟩
      case measure => simp [lenV]; omega
    · go_wp2
      go_ret
      exact ⟨a, c, l, rfl, ho, ⟨MdJ.ok HL.out (by omega) (by omega), MdJ.lp HL.out (by omega)⟩, hr.mono (by omega), hU⟩

theorem belowA {w w1 : World} (h : Below w.heap.size w w1) (o : Obj) : Below w.heap.size w (w1.alloc o) := h.alloc h.size o
theorem belowD {w w1 : World} (h : Below w.heap.size w w1) : Below w.heap.size w w1.drew := h.drew
theorem belowStep {w0 w1 w2 : World} (h : Below w0.heap.size w0 w1) (k : Below w1.heap.size w1 w2) : Below w0.heap.size w0 w2 := h.trans (k.mono h.size)
theorem upStep {b : Nat} {w0 w1 w2 : World} (h : Below w0.heap.size w0 w1) (k : UpB b w1.heap.size w1 w2) : UpB b w0.heap.size w0 w2 := ((UpB.refl b w0.heap.size w0).below h (Nat.le_refl _)).trans (k.less h.size)

/-- numbers from lo to 2 -/
def BdJ (lo : Int) (l : List Int) : Prop := ∀ y ∈ l, lo ≤ y ∧ y ≤ 2
theorem BdJ.nil (lo : Int) : BdJ lo [] := by simp [BdJ]
theorem BdJ.mono {lo lo' : Int} {l : List Int} (h : BdJ lo l) (hl : lo' ≤ lo) : BdJ lo' l := fun y hy => ⟨by have := h y hy; omega, (h y hy).2⟩
theorem BdJ.snoc {lo : Int} {l : List Int} {x : Int} (h : BdJ lo l) (hx : lo ≤ x ∧ x ≤ 2) : BdJ lo (l ++ [x]) := fun y hy => by
  rcases List.mem_append.1 hy with hy | hy
  · exact h y hy
  · rw [List.mem_singleton] at hy; rw [hy]; exact hx
theorem BdJ.set {lo : Int} {l : List Int} {k : Nat} {x : Int} (h : BdJ lo l) (hx : lo ≤ x ∧ x ≤ 2) : BdJ lo (l.set k x) := fun y hy => by
  rcases List.mem_or_eq_of_mem_set hy with hy | hy
  · exact h y hy
  · exact hy ▸ hx
theorem mx1_bJ {x : Int} (h : x ≤ 3) : 1 ≤ mx1 x ∧ mx1 x ≤ 3 := by unfold mx1; split <;> omega

set_option maxRecDepth 100000 in
set_option maxHeartbeats 2000000 in
theorem s_aTestJ {b K lo hi c : Nat} {a : Option Addr} {m : List Int} {w : World} (hr : Rdr w b K) (hm : RI w lo hi a m) (hhi : hi ≤ w.heap.size) (hlo : b < lo) (hL : MdJ 5 m) (hK : K + 5 ≤ 1000000) :
    Calls Tryz.prog 36 #[.pointer (some ⟨b, 0, none⟩), .slice a m.length c] w (Dl w b (K + 5) w.heap.size (fun l => l.length = m.length ∧ BdJ 0 l)) := by
  have hlt := hr.lt
  have hl1 := hL.1
  have HL := Lib.hid hL; clear hL
  obtain ⟨W1, hW1⟩ : ∃ W, w.alloc (.cells #[] 3) = W := ⟨_, rfl⟩
  have hb1 : Below w.heap.size w W1 := by rw [← hW1]; exact (Below.refl w.heap.size w).alloc (Nat.le_refl _) _
  have ho1 : OwnL W1 w.heap.size (.slice (some ⟨w.heap.size, 0, none⟩) 0 0) [] := by rw [← hW1]; exact OwnL.made w w.heap.size (Nat.le_refl _)
  have hr1 := hr.below hb1 hlt
  have hU1 := (UpB.refl b w.heap.size w).below hb1 (Nat.le_refl _)
  go_enter Tryz.func36, Tryz.ntmps36
  go_wp2
  clear hW1 hb1
  go_loopw [5, 6] (fun v i wr => ∃ (k : Nat) (a : Option Addr) (c : Nat) (l : List Int), k ≤ m.length ∧ i = .int .i64 k ∧ v = .slice a l.length c ∧ OwnL wr w.heap.size (.slice a l.length c) l ∧ Hid (l.length = k ∧ BdJ 0 l) ∧ Rdr wr b (K + k) ∧ UpB b w.heap.size w wr) (fun _ i _ => m.length - (intOf i).toNat)
  case atStart => exact ⟨0, _, _, [], Nat.zero_le _, rfl, rfl, ho1, ⟨rfl, BdJ.nil _⟩, hr1, hU1⟩
  case round =>
    clear ho1 hr1 hU1
    obtain ⟨k, a3, c3, l, hk, rfl, rfl, ho, hL, hr, hU⟩ := hrel
    have hszr := hU.size
    have hlk := hL.out.1
    have hlk1 : l.length ≤ k := by omega
    clear hlk
    by_cases hlt2 : k < m.length
    · obtain ⟨b1, o1, x, ha, _, _, hcell, hx⟩ := (hm.upB hU hhi hhi hlo).at hlt2
      have hidx := idxI ha hlt2 c
      have hx4 := HL.out.2 x (List.mem_of_getElem? hx.out)
      have hmx := maxOne x
      have hmb := mx1_bJ hx4.2
      clear ha hm
      go_wp2_with fail
      refine (s_pick hr (by omega) (by omega) (by omega)).mono ?_
      rintro e w3 ⟨y, rfl, hy, hr3, hu3⟩
      have hy1 := hy.2 hmb.1
      have hy0 := hy.1
      have ho3 := ho.upd hu3 hlt
      have hU3 := hU.upd hu3
      have hs3 := hU3.size
      clear ho hr hU hu3 hy hmx
      go_wp2_with (first
        | (at_builtin; refine wpList_app1 rfl _ _ rfl w.heap.size _ l rfl ho3 y rfl (by omega) hs3 ?_; intro v4 w4 ho4 hb4)
        | go_in)
      obtain ⟨a4, c4, rfl, _⟩ := ho4.slice
      have hr4 := hr3.below hb4 hlt
      have hU4 := hU3.below hb4 (Nat.le_refl _)
      have HL4 : Hid ((l ++ [y]).length = k + 1 ∧ BdJ 0 (l ++ [y])) := ⟨by have := hL.out.1; simp; omega, hL.out.2.snoc (by omega)⟩
      clear ho3 hr3 hU3 hb4
      go_roundw
      case rel => exact ⟨k + 1, a4, c4, l ++ [y], by omega, by go_num, rfl, ho4, HL4, hr4.mono (by omega), hU4⟩
      case measure => simp [intOf]; omega
    · go_wp2
      go_ret
      have h9 := hL.out
      exact ⟨a3, c3, l, rfl, ho, ⟨by omega, h9.2⟩, hr.mono (by omega), hU⟩

/-- one of some texts -/
def Pt (w : World) (b K n : Nat) (e : Ending) (w' : World) : Prop := ∃ s : ByteArray, e = .returned (.string s) ∧ s.size ≤ n ∧ Rdr w' b K ∧ Upd b (b + 1) w w'
theorem undTx : Tryz.prog.underlying 22 = some (.slice 9) := by kernel_rfl
theorem sizeTx (w : World) : (sizeOf 9).run Tryz.prog w = .ok 1 w := by kernel_rfl
theorem idxTx {b o n k : Nat} (hk : k < n) (cap : Nat) (wx : World) :
    (Instr.indexAt 22 (.slice (some ⟨b, o, none⟩) n cap) (.int .i64 (k : Int))).run Tryz.prog wx = .ok (.pointer (some ⟨b, o + k, none⟩)) wx := idx_run undTx sizeTx rfl hk cap wx

set_option maxRecDepth 100000 in
set_option maxHeartbeats 2000000 in
theorem s_of {b K g n c N : Nat} {w : World} (hr : Rdr w b K) (hK : K ≤ 1000000) (hn0 : 0 < n) (hn : n ≤ 1048576) (hg : b < g) (hgs : g < w.heap.size) (hc : ∀ k, k < n → ∃ s : ByteArray, w.cell? ⟨g, k, none⟩ = some (.string s) ∧ s.size ≤ N) :
    Calls Tryz.prog 20 #[.pointer (some ⟨b, 0, none⟩), .slice (some ⟨g, 0, none⟩) n c] w (Pt w b (K + 1) N) := by
  have HC := Lib.hid hc; clear hc
  go_enter Tryz.func20, Tryz.ntmps20
  go_wp2_with fail
  refine (s_pick hr (by omega) (by omega) (by omega)).mono ?_
  rintro e w1 ⟨v, rfl, hv, hr1, hu1⟩
  obtain ⟨k, rfl⟩ := Int.eq_ofNat_of_zero_le hv.1
  have hk := hv.2 (by omega)
  have hkl : k < n := by omega
  obtain ⟨s, hs, hsz⟩ := HC.out k hkl
  have hcell : w1.cell? ⟨g, k, none⟩ = some (.string s) := (World.cell?_of_block (w := w) (hu1.block g hgs (by omega))).trans hs
  have hidx := fun wx => idxTx (b := g) (o := 0) hkl c wx
  simp only [Nat.zero_add] at hidx
  clear hv hk
  go_wp2
  go_ret
  exact ⟨s, rfl, hsz, hr1, hu1⟩

theorem litsTx {X : World} {cs : Array Value} {N : Nat} (h : ∀ (k : Nat) (v : Value), cs[k]? = some v → ∃ s : ByteArray, v = .string s ∧ s.size ≤ N) : ∀ k, k < cs.size → ∃ s : ByteArray, (X.alloc (.cells cs 9)).cell? ⟨X.heap.size, k, none⟩ = some (.string s) ∧ s.size ≤ N := by
  intro k hk
  obtain ⟨s, hs, h2⟩ := h k cs[k] (by simp [hk])
  refine ⟨s, ?_, h2⟩
  rw [cell_of_row _ X.heap.size k cs 9 (0, 0) (heap_alloc_new X _), Array.getElem?_eq_getElem hk, hs]
set_option maxRecDepth 100000 in
set_option maxHeartbeats 8000000 in
theorem s_mutate {b K : Nat} {s : ByteArray} {w : World} (hr : Rdr w b K) (hK : K ≤ 900000) (hs : s.size ≤ 1000) :
    Calls Tryz.prog 25 #[.pointer (some ⟨b, 0, none⟩), .string s] w (fun e w' => ∃ s' : ByteArray, e = .returned (.string s') ∧ s'.size ≤ s.size + 4 ∧ Rdr w' b (K + 3) ∧ UpB b w.heap.size w w') := by
  have hlt := hr.lt
  go_enter Tryz.func25, Tryz.ntmps25
  go_wp2_with fail
  refine (s_pick hr (by omega) (by omega) (by omega)).mono ?_
  rintro e w1 ⟨k0, rfl, hk, hr1, hu1⟩
  obtain ⟨k, rfl⟩ := Int.eq_ofNat_of_zero_le hk.1
  have hkl : k ≤ s.size := by have := hk.2 (by omega); omega
  have hU1 := (UpB.refl b w.heap.size w).upd hu1
  have hs1 := hU1.size
  clear hk hu1 hr
  go_wp2_with fail
  refine (s_pick hr1 (by omega) (by omega) (by omega)).mono ?_
  rintro e w2 ⟨v, rfl, hv, hr2, hu2⟩
  have hv5 : 0 ≤ v ∧ v < 5 := ⟨hv.1, hv.2 (by omega)⟩
  have hU2 := hU1.upd hu2
  have hs2 := hU2.size
  have hlt2 := hr2.lt
  clear hv hu2 hU1 hr1
  have hq0 : Below w2.heap.size w2 w2 := Below.refl _ _
  have cs : (v = 0 ∨ v = 1) ∨ v = 2 ∨ v = 3 ∨ v = 4 := by omega
  rcases cs with hv | rfl | rfl | rfl
  · by_cases hkk : k < s.size
    · have HO1 : Hid (∀ X : World, Below w2.heap.size w2 X → Calls Tryz.prog 20 #[.pointer (some ⟨b, 0, none⟩), .slice (some ⟨X.heap.size, 0, none⟩) 8 8] (X.alloc (.cells #[.string ⟨#[48]⟩, .string ⟨#[49]⟩, .string ⟨#[50]⟩, .string ⟨#[46]⟩, .string ⟨#[44]⟩, .string ⟨#[45]⟩, .string ⟨#[97]⟩, .string ⟨#[32]⟩] 9)) (Pt ((X.alloc (.cells #[.string ⟨#[48]⟩, .string ⟨#[49]⟩, .string ⟨#[50]⟩, .string ⟨#[46]⟩, .string ⟨#[44]⟩, .string ⟨#[45]⟩, .string ⟨#[97]⟩, .string ⟨#[32]⟩] 9))) b (K + 3) 2)) := fun X hX => s_of (w := (X.alloc (.cells #[.string ⟨#[48]⟩, .string ⟨#[49]⟩, .string ⟨#[50]⟩, .string ⟨#[46]⟩, .string ⟨#[44]⟩, .string ⟨#[45]⟩, .string ⟨#[97]⟩, .string ⟨#[32]⟩] 9))) (g := X.heap.size) (n := 8) (c := 8) (N := 2) (hr2.below (belowA hX _) hlt2) (by omega) (by decide) (by decide) (by have := hX.size; omega) (by show X.heap.size < (X.alloc _).heap.size; simp) (litsTx (cs := #[.string ⟨#[48]⟩, .string ⟨#[49]⟩, .string ⟨#[50]⟩, .string ⟨#[46]⟩, .string ⟨#[44]⟩, .string ⟨#[45]⟩, .string ⟨#[97]⟩, .string ⟨#[32]⟩]) (N := 2) (fun k v hv => by rcases k with _ | _ | _ | _ | _ | _ | _ | _ | k <;> simp at hv <;> (subst hv; exact ⟨_, rfl, by decide⟩)))
      have HO2 : Hid (∀ X : World, Below w2.heap.size w2 X → Calls Tryz.prog 20 #[.pointer (some ⟨b, 0, none⟩), .slice (some ⟨X.heap.size, 0, none⟩) 8 8] (X.alloc (.cells #[.string ⟨#[48]⟩, .string ⟨#[49]⟩, .string ⟨#[50]⟩, .string ⟨#[46]⟩, .string ⟨#[44]⟩, .string ⟨#[45]⟩, .string ⟨#[97]⟩, .string ⟨#[32]⟩] 9)).drew (Pt ((X.alloc (.cells #[.string ⟨#[48]⟩, .string ⟨#[49]⟩, .string ⟨#[50]⟩, .string ⟨#[46]⟩, .string ⟨#[44]⟩, .string ⟨#[45]⟩, .string ⟨#[97]⟩, .string ⟨#[32]⟩] 9)).drew) b (K + 3) 2)) := fun X hX => s_of (w := (X.alloc (.cells #[.string ⟨#[48]⟩, .string ⟨#[49]⟩, .string ⟨#[50]⟩, .string ⟨#[46]⟩, .string ⟨#[44]⟩, .string ⟨#[45]⟩, .string ⟨#[97]⟩, .string ⟨#[32]⟩] 9)).drew) (g := X.heap.size) (n := 8) (c := 8) (N := 2) (hr2.below (belowD (belowA hX _)) hlt2) (by omega) (by decide) (by decide) (by have := hX.size; omega) (by show X.heap.size < (X.alloc _).heap.size; simp) (litsTx (cs := #[.string ⟨#[48]⟩, .string ⟨#[49]⟩, .string ⟨#[50]⟩, .string ⟨#[46]⟩, .string ⟨#[44]⟩, .string ⟨#[45]⟩, .string ⟨#[97]⟩, .string ⟨#[32]⟩]) (N := 2) (fun k v hv => by rcases k with _ | _ | _ | _ | _ | _ | _ | _ | k <;> simp at hv <;> (subst hv; exact ⟨_, rfl, by decide⟩)))
      have hw : IntKind.i64.wrap ((k : Int) + 1) = (k : Int) + 1 := IntWalk.i64_in _ (by omega)
      rcases hv with rfl | rfl
      all_goals
        go_wp2_with fail
        go_region_with (first
          | (go_at_call 20; refine (HO1.out _ (by (repeat (first | with_reducible exact hq0 | with_reducible refine belowA ?_ _ | with_reducible refine belowD ?_)))).mono ?_; rintro e w5 ⟨q, rfl, hq, hr5, hu5⟩; have hU5 : UpB b w2.heap.size w2 w5 := UpB.upd ((UpB.refl b w2.heap.size w2).below (by (repeat (first | with_reducible exact hq0 | with_reducible refine belowA ?_ _ | with_reducible refine belowD ?_))) (Nat.le_refl _)) hu5)
          | (go_at_call 20; refine (HO2.out _ (by (repeat (first | with_reducible exact hq0 | with_reducible refine belowA ?_ _ | with_reducible refine belowD ?_)))).mono ?_; rintro e w5 ⟨q, rfl, hq, hr5, hu5⟩; have hU5 : UpB b w2.heap.size w2 w5 := UpB.upd ((UpB.refl b w2.heap.size w2).below (by (repeat (first | with_reducible exact hq0 | with_reducible refine belowA ?_ _ | with_reducible refine belowD ?_))) (Nat.le_refl _)) hu5))
        all_goals
          go_wp2
          go_ret
          exact ⟨_, rfl, by simp [ByteArray.size_append, ByteArray.size_extract]; omega, hr5.mono (by omega), hU2.trans (hU5.less (by omega))⟩
    · rcases hv with rfl | rfl
      all_goals
        go_wp2
        go_ret
        exact ⟨s, rfl, by omega, hr2.mono (by omega), hU2⟩
  · go_wp2
    go_ret
    exact ⟨_, rfl, by simp [ByteArray.size_extract]; omega, hr2.mono (by omega), hU2⟩
  · have HO1 : Hid (∀ X : World, Below w2.heap.size w2 X → Calls Tryz.prog 20 #[.pointer (some ⟨b, 0, none⟩), .slice (some ⟨X.heap.size, 0, none⟩) 5 5] (X.alloc (.cells #[.string ⟨#[48]⟩, .string ⟨#[44]⟩, .string ⟨#[32]⟩, .string ⟨#[46]⟩, .string ⟨#[44, 44]⟩] 9)) (Pt ((X.alloc (.cells #[.string ⟨#[48]⟩, .string ⟨#[44]⟩, .string ⟨#[32]⟩, .string ⟨#[46]⟩, .string ⟨#[44, 44]⟩] 9))) b (K + 3) 2)) := fun X hX => s_of (w := (X.alloc (.cells #[.string ⟨#[48]⟩, .string ⟨#[44]⟩, .string ⟨#[32]⟩, .string ⟨#[46]⟩, .string ⟨#[44, 44]⟩] 9))) (g := X.heap.size) (n := 5) (c := 5) (N := 2) (hr2.below (belowA hX _) hlt2) (by omega) (by decide) (by decide) (by have := hX.size; omega) (by show X.heap.size < (X.alloc _).heap.size; simp) (litsTx (cs := #[.string ⟨#[48]⟩, .string ⟨#[44]⟩, .string ⟨#[32]⟩, .string ⟨#[46]⟩, .string ⟨#[44, 44]⟩]) (N := 2) (fun k v hv => by rcases k with _ | _ | _ | _ | _ | _ | _ | _ | k <;> simp at hv <;> (subst hv; exact ⟨_, rfl, by decide⟩)))
    go_wp2_with fail
    refine (HO1.out _ hq0).mono ?_
    rintro e w5 ⟨q, rfl, hq, hr5, hu5⟩
    have hU5 : UpB b w2.heap.size w2 w5 := UpB.upd ((UpB.refl b w2.heap.size w2).below (belowA hq0 _) (Nat.le_refl _)) hu5
    go_wp2
    go_ret
    exact ⟨_, rfl, by simp [ByteArray.size_append]; omega, hr5.mono (by omega), hU2.trans (hU5.less (by omega))⟩
  · go_wp2
    go_ret
    exact ⟨s, rfl, by omega, hr2.mono (by omega), hU2⟩

/-- a test whose levels are told -/
def RwJ (r : List Int) : Prop := r.length ≤ 5 ∧ BdJ 0 r
theorem RwJ.mk {m r : List Int} (h : r.length = m.length) (h5 : m.length ≤ 5) (hb : BdJ 0 r) : RwJ r := ⟨by omega, hb⟩
theorem RwJ.okT {m r : List Int} (hm : okM m = true) (h : okT m r = true) : RwJ r := by
  have h1 := okW_len h
  have h5 := okM_len hm
  refine ⟨by omega, fun x hx => ?_⟩
  obtain ⟨k, hk⟩ := List.getElem?_of_mem hx
  obtain ⟨y, hy⟩ := at_of_lt (show k < m.length by have := lt_of_at hk; omega)
  have h2 := okW_at h hk hy
  have h3 := okM_at hm hy
  omega
def SPJ (mm : List (List Int)) : Prop := mm.length ≤ 21 ∧ ∀ r ∈ mm, RwJ r
theorem SPJ.snoc {mm : List (List Int)} {r : List Int} (h : ∀ r ∈ mm, RwJ r) (hr : RwJ r) : ∀ q ∈ mm ++ [r], RwJ q := fun q hq => by
  rcases List.mem_append.1 hq with hq | hq
  · exact h q hq
  · simp at hq; subst hq; exact hr
def DlsJ (w : World) (b K B : Nat) (e : Ending) (w' : World) : Prop := ∃ (a : Option Addr) (c : Nat) (mm : List (List Int)), e = .returned (.slice a mm.length c) ∧ OwnX w' B (.slice a mm.length c) mm ∧ SPJ mm ∧ Rdr w' b K ∧ UpB b B w w'

set_option maxRecDepth 100000 in
set_option maxHeartbeats 8000000 in
theorem s_aSuiteJ {b K lo hi c : Nat} {a : Option Addr} {m : List Int} {w : World} (hr : Rdr w b K) (hm : RI w lo hi a m) (hhi : hi ≤ w.heap.size) (hlo : b < lo) (hL : MdJ 5 m) (hK : K ≤ 500000) :
    Calls Tryz.prog 23 #[.pointer (some ⟨b, 0, none⟩), .slice a m.length c] w (DlsJ w b (K + 400) w.heap.size) := by
  have hlt := hr.lt
  have hl1 := hL.1
  have HL := Lib.hid hL; clear hL
  obtain ⟨W1, hW1⟩ : ∃ W, w.alloc (.cells #[] 45) = W := ⟨_, rfl⟩
  have hb1 : Below w.heap.size w W1 := by rw [← hW1]; exact (Below.refl w.heap.size w).alloc (Nat.le_refl _) _
  have hs1 : w.heap.size + 1 ≤ W1.heap.size := by rw [← hW1]; simp
  have ho1 : OwnX W1 w.heap.size (.slice (some ⟨w.heap.size, 0, none⟩) 0 0) [] := by rw [← hW1]; exact OwnX.made w w.heap.size (Nat.le_refl _)
  have hb2 := (Below.refl W1.heap.size W1).alloc (Nat.le_refl _) (.cells #[.int .i64 4, .int .i64 3, .int .i64 6, .int .i64 2, .int .i64 1, .int .i64 0, .int .i64 9] 3)
  go_enter Tryz.func23, Tryz.ntmps23
  go_wp2_with fail
  refine (s_one ((hr.below hb1 hlt).below hb2 (by omega)) (by omega) (litW W1 _ [4, 3, 6, 2, 1, 0, 9] rfl) (by simp) (by simp) (.inr (by omega)) (by simp)).mono ?_
  rintro e w2 ⟨n, rfl, hn, hr2, hu2⟩
  have hn5 : 0 ≤ n ∧ n ≤ 9 := by simp at hn; omega
  have ho2 := (ho1.below hb2).upd hu2 hlt
  have hU2 : UpB b w.heap.size w w2 := (((UpB.refl b w.heap.size w).below hb1 (Nat.le_refl _)).below hb2 (by omega)).upd hu2
  have hs2 := hU2.size
  clear hr hb1 hb2 ho1 hu2 hn hs1
  go_wp2
  go_loopw [5] (fun v wr => ∃ (a : Option Addr) (c : Nat) (l : List (List Int)), v = .slice a l.length c ∧ OwnX wr w.heap.size (.slice a l.length c) l ∧ l.length ≤ 9 ∧ Hid (∀ r ∈ l, RwJ r) ∧ Rdr wr b (K + 1 + l.length * 22) ∧ UpB b w.heap.size w wr) (fun v _ => n.toNat - lenV v)
  case atStart => exact ⟨_, _, [], rfl, ho2, by simp, by simp [Hid], by simpa using hr2, hU2⟩
  case round =>
    clear ho2 hr2 hU2
    obtain ⟨al, cl, l, rfl, ho, hl9, hLl, hr, hU⟩ := hrel
    have hlw := hr.lt
    have hszr := hU.size
    clear hW1
    by_cases hlt2 : (l.length : Int) < n
    · by_cases hnp : (0 : Int) < (l.length : Int)
      case neg =>
        skip
        have hmq := hm.upB hU hhi hhi hlo
        have hszq := hU.size
        go_wp2_with fail
        refine (s_aTestJ hr hmq (by omega) hlo HL.out (by omega)).mono ?_
        rintro e w6 ⟨a6, c6, r, rfl, ho6, hl6, hr6, hU6⟩
        have HL6 := Lib.hid (RwJ.mk hl6.1 hl1 hl6.2)
        have hs6 := hU6.size
        have hX6 := ho.upB hU6 hlt
        have hoff : ∀ g, (Value.slice al l.length cl).ownBlock = some g → g < wr.heap.size := fun g hg => (ho.lt g hg).2
        obtain ⟨a7, c7, e7, hoi⟩ := ho6.slice
        cases e7
        have hri := hoi.ri
        have hcp := hoi.cap
        have HOF := Lib.hid hoff
        have hU6l := hU6.less (show w.heap.size ≤ wr.heap.size by omega)
        clear ho6 hl6 hoff ho hU6 hoi
        go_wp2_with (first
          | (at_builtin; refine wpList_appX rfl (.tmp 33) (.tmp 37) rfl w.heap.size wr.heap.size w6.heap.size _ l rfl hX6 (by omega) r a6 r.length c6 rfl hri hcp (by omega) (Nat.le_refl _) HOF.out w6.heap.size rfl rfl (by omega) ?_; intro v8 w8 hown8 hb8 _; obtain ⟨a8, c8, hv8, _⟩ := hown8.riic; subst hv8)
          | go_in)
        have hr8 := hr6.below hb8 hlt
        have hU8 := (hU.trans hU6l).below hb8 (Nat.le_refl _)
        have HL8 := Lib.hid (SPJ.snoc hLl.out HL6.out)
        clear hX6 hri hr6 hU6l hU hb8
        go_roundw
        case rel => exact ⟨a8, c8, l ++ [r], by simp, hown8, by simp; omega, HL8, hr8.mono (by simp; omega), hU8⟩
        case measure => simp [lenV]; omega
      · skip
        go_wp2_with fail
        refine (s_pick hr (by omega) (by omega) (by omega)).mono ?_
        rintro e wq ⟨v, rfl, hv, hrq, huq⟩
        have hoq := ho.upd huq hlt
        have hUq := hU.upd huq
        have hszq0 := hUq.size
        have hsq := huq.size
        clear ho hr hU huq
        by_cases e0 : v = 0
        · subst e0
          obtain ⟨a3, c3, e3, hX⟩ := hoq.riic
          cases e3
          obtain ⟨b5, o5, a5, c5, r, ha5, _, hb5, hc5, hr5, hx5, _⟩ := hX.rii.atc (show 0 < l.length by omega)
          rw [Nat.add_zero] at hc5
          have hidx0 : ∀ wx : World, (Instr.indexAt 49 (.slice al l.length cl) (.int .i64 0)).run Tryz.prog wx = .ok (.pointer (some ⟨b5, o5, none⟩)) wx := fun wx => idxII ha5 (show 0 < l.length by omega) cl wx
          have HL6 := Lib.hid (hLl.out r (List.mem_of_getElem? hx5.out))
          have hrl := HL6.out.1
          have hbA := (Below.refl wq.heap.size wq).alloc (Nat.le_refl _) (.cells #[] 3)
          have hcA : (wq.alloc (.cells #[] 3)).cell? ⟨b5, o5, none⟩ = some (.slice a5 r.length c5) := (hbA.cell (p := ⟨b5, o5, none⟩) hb5).trans hc5
          have hrA := hr5.below hbA (Nat.le_refl _)
          have hstr := OwnL.made wq wq.heap.size (Nat.le_refl _)
          have HOF : Hid (∀ g, (Value.slice al l.length cl).ownBlock = some g → g < wq.heap.size) := fun g hg => (hoq.lt g hg).2
          clear hX ha5 hbA hc5 hr5
          go_wp2_with (first
            | (at_builtin; refine wpList_appA rfl (.tmp 26) (.tmp 29) rfl wq.heap.size _ [] rfl hstr r _ _ c5 a5 rfl hrA (by simp) (by omega) (by simp) ?_; intro v6 w6 hown6 hb6; have hb06 := chain1 hb6; have hs6 := hb06.size; simp only [List.nil_append] at hown6; obtain ⟨a6, c6, hv6, hoi⟩ := hown6.slice; subst hv6; have hri := hoi.ri; have hcp := hoi.cap; have hX6 := hoq.below hb06; clear hown6 hb6 hoi hstr hrA hcA)
            | (at_builtin; refine wpList_appX rfl (.tmp 25) (.tmp 31) rfl w.heap.size wq.heap.size w6.heap.size _ l rfl hX6 (by omega) r a6 r.length c6 rfl hri hcp (by omega) (Nat.le_refl _) HOF.out w6.heap.size rfl rfl (by omega) ?_; intro v8 w8 hown8 hb8 _; obtain ⟨a8, c8, hv8, _⟩ := hown8.riic; subst hv8)
            | go_in)
          have hr8 := (hrq.below hb06 hrq.lt).below hb8 hlt
          have hU8 := (hUq.below hb06 (by omega)).below hb8 (Nat.le_refl _)
          have HL8 := Lib.hid (SPJ.snoc hLl.out HL6.out)
          clear hX6 hri hrq hUq hb8 hb06 hoq
          go_roundw
          case rel => exact ⟨a8, c8, l ++ [r], by simp, hown8, by simp; omega, HL8, hr8.mono (by simp; omega), hU8⟩
          case measure => simp [lenV]; omega
        · have hv0 := hv.1
          have hvne : (v == 0) = false := by rw [beq_eq_false_iff_ne]; exact e0
          have ho := hoq
          have hU := hUq
          have hr := hrq
          clear hoq hUq hrq hv
          have hmq := hm.upB hU hhi hhi hlo
          have hszq := hU.size
          go_wp2_with fail
          refine (s_aTestJ hr hmq (by omega) hlo HL.out (by omega)).mono ?_
          rintro e w6 ⟨a6, c6, r, rfl, ho6, hl6, hr6, hU6⟩
          have HL6 := Lib.hid (RwJ.mk hl6.1 hl1 hl6.2)
          have hs6 := hU6.size
          have hX6 := ho.upB hU6 hlt
          have hoff : ∀ g, (Value.slice al l.length cl).ownBlock = some g → g < wq.heap.size := fun g hg => (ho.lt g hg).2
          obtain ⟨a7, c7, e7, hoi⟩ := ho6.slice
          cases e7
          have hri := hoi.ri
          have hcp := hoi.cap
          have HOF := Lib.hid hoff
          have hU6l := hU6.less (show w.heap.size ≤ wq.heap.size by omega)
          clear ho6 hl6 hoff ho hU6 hoi
          go_wp2_with (first
            | (at_builtin; refine wpList_appX rfl (.tmp 33) (.tmp 37) rfl w.heap.size wq.heap.size w6.heap.size _ l rfl hX6 (by omega) r a6 r.length c6 rfl hri hcp (by omega) (Nat.le_refl _) HOF.out w6.heap.size rfl rfl (by omega) ?_; intro v8 w8 hown8 hb8 _; obtain ⟨a8, c8, hv8, _⟩ := hown8.riic; subst hv8)
            | go_in)
          have hr8 := hr6.below hb8 hlt
          have hU8 := (hU.trans hU6l).below hb8 (Nat.le_refl _)
          have HL8 := Lib.hid (SPJ.snoc hLl.out HL6.out)
          clear hX6 hri hr6 hU6l hU hb8
          go_roundw
          case rel => exact ⟨a8, c8, l ++ [r], by simp, hown8, by simp; omega, HL8, hr8.mono (by simp; omega), hU8⟩
          case measure => simp [lenV]; omega
    · go_wp2_with fail
      refine (s_pick hr (by omega) (by omega) (by omega)).mono ?_
      rintro e wq ⟨v, rfl, hv, hrq, huq⟩
      have hoq := ho.upd huq hlt
      have hUq := hU.upd huq
      have hszq := hUq.size
      have hv0 := hv.1
      have HSP : Hid (SPJ l) := ⟨by omega, hLl.out⟩
      clear ho hr hU huq hv
      by_cases e0 : v = 0
      case neg =>
        have hvne : (v == 0) = false := by rw [beq_eq_false_iff_ne]; exact e0
        go_wp2
        go_ret
        exact ⟨al, cl, l, rfl, hoq, HSP.out, hrq.mono (by omega), hUq⟩
      subst e0
      have hmq := hm.upB hUq hhi hhi hlo
      cases hok : okM m
      · have HOK := Lib.hid hok; clear hok
        go_wp2_with fail
        refine (s_validModel hmq (by omega)).mono ?_
        rintro e w7 ⟨rfl, hd⟩
        rw [HOK.out]
        have ho7 := hoq.below (Dr.below hd _)
        have hr7 := hrq.below (Dr.below hd _) hrq.lt
        have hU7 := hUq.below (Dr.below hd wq.heap.size) (by omega)
        clear hoq hrq hUq
        go_wp2
        go_ret
        exact ⟨al, cl, l, rfl, ho7, HSP.out, hr7.mono (by omega), hU7⟩
      have hm5 := okM_len hok
      have HOK := Lib.hid hok; clear hok
      clear hoq HSP hLl
      go_wp2_with fail
      refine (s_validModel hmq (by omega)).mono ?_
      rintro e w7 ⟨rfl, hd⟩
      rw [HOK.out]
      have hr7 := hrq.below (Dr.below hd _) hrq.lt
      have hU7 := hUq.below (Dr.below hd wq.heap.size) (by omega)
      have hz7 := Dr.le hd
      have hm7 := hmq.dr hd
      have hmin := minTwo (m.length : Int)
      obtain ⟨t, ht⟩ : ∃ t : Int, min 2 (m.length : Int) = t := ⟨_, rfl⟩
      have ht2 : 0 ≤ t ∧ t ≤ m.length := by omega
      rw [ht] at hmin
      clear ht hrq hUq hmq hd
      -- the empty suite, and the empty head
      obtain ⟨W1, hW1⟩ : ∃ W, w7.alloc (.cells #[] 45) = W := ⟨_, rfl⟩
      have hb1 : Below w7.heap.size w7 W1 := by rw [← hW1]; exact (Below.refl w7.heap.size w7).alloc (Nat.le_refl _) _
      have hs1 : w7.heap.size + 1 ≤ W1.heap.size := by rw [← hW1]; simp
      have hbA := (Below.refl W1.heap.size W1).alloc (Nat.le_refl _) (.cells #[] 3)
      have hm8 := (hm7.below hb1 (by omega)).below hbA (by omega)
      go_wp2_with fail
      refine (s_extend HOK.out m.length [] a ⟨W1.heap.size, 0, none⟩ c 0 lo hi 0 0 _ (by simp) hm8 (by simp; omega) (RI.nil _ _ _ _) (by simp)).mono ?_
      rintro e w8 ⟨ad8, c8, rfl, h8, hb8⟩
      have hb18 : Below w7.heap.size w7 w8 := hb1.trans ((hbA.trans (hb8.mono (by simp))).mono (by omega))
      have hs8 := hb18.size
      obtain ⟨all, hall⟩ : ∃ x, extS m [] = x := ⟨_, rfl⟩
      have HNE : Hid (all ≠ []) := by show _ ≠ _; rw [← hall]; exact ext_ne HOK.out
      have HROW : Hid (∀ x ∈ all, x.length = m.length) := by rw [← hall]; exact ext_row
      have HLPA : Hid (∀ x ∈ all, RwJ x) := by rw [← hall]; exact fun x hx => RwJ.okT HOK.out ((ext_mem HOK.out).1 hx)
      have hlen8 : all.length ≤ 1024 := by rw [← hall]; exact ext_len HOK.out
      rw [hall] at h8
      have h8r : RII w8 w7.heap.size w8.heap.size (some ad8) all := h8.rii.wide (by simp; omega) (Nat.le_refl _)
      rw [hall]
      have hbB := (Below.refl w8.heap.size w8).alloc (Nat.le_refl _) (.cells #[] 3)
      have hm9 := (hm7.below hb18 (by omega)).below hbB (by omega)
      clear hb1 hbA hm8 h8 hb8 hall hW1
      go_wp2_with fail
      refine (s_patterns HOK.out m.length [] a ⟨w8.heap.size, 0, none⟩ c 0 lo hi 0 0 _ t (by simp) hm9 (by simp; omega) (RI.nil _ _ _ _) (by simp) (by omega) (by omega)).mono ?_
      rintro e w9 ⟨ad9, c9, rfl, h9, hb9⟩
      obtain ⟨ps, hps⟩ : ∃ x, patS m [] t = x := ⟨_, rfl⟩
      have HPR : Hid (∀ p ∈ ps, p.length ≤ m.length) := by rw [← hps]; exact fun p hp => Nat.le_of_eq (patS_row p hp)
      have hlen9 : ps.length ≤ 1024 := by rw [← hps]; exact patS_len HOK.out t
      rw [hps] at h9
      rw [hps]
      have hb19 : Below w8.heap.size w8 w9 := hbB.trans (hb9.mono (by simp))
      have hs9 := hb19.size
      have h8s := h8r.below hb19 (Nat.le_refl _)
      have h9r : RII w9 w8.heap.size w9.heap.size (some ad9) ps := h9.rii.wide (by simp) (Nat.le_refl _)
      have hb79 := hb18.trans (hb19.mono hs8)
      clear hbB hm9 h9 hb9 hps h8r hb18 hb19
      go_wp2_with fail
      refine (s_greedy (s := []) (n := m.length) (RII.nil w9 0 0 _) (by omega) (by simp) (by simp) h8s (by omega) h9r (Nat.le_refl _) HNE.out (by omega) (by omega) HROW.out HPR.out (by omega) (by omega)).mono ?_
      rintro e w10 ⟨v10, rfl, ho10, hn10, hb10⟩
      obtain ⟨mm, hmm⟩ : ∃ x, grS all (21 - ([] : List (List Int)).length) [] ps = x := ⟨_, rfl⟩
      have HMM : Hid (SPJ mm) := by
        rw [← hmm]
        refine ⟨?_, grS_rows (P := fun x => RwJ x) HNE.out HLPA.out _ _ _ (by simp)⟩
        have := (grS_len all (21 - ([] : List (List Int)).length) [] ps).2
        simp at this ⊢
        omega
      rw [hmm] at ho10
      have hX10 := (OwnX.ofLL ho10).base (show w.heap.size ≤ w9.heap.size by omega)
      obtain ⟨a10, c10, hv10, _⟩ := hX10.riic
      subst hv10
      have hb710 := hb79.trans (hb10.mono (by omega))
      have hr10 := hr7.below hb710 hr7.lt
      have hU10 := hU7.below hb710 (by omega)
      have hs10 := hU10.size
      have hml := HMM.out.1
      clear hmm ho10 hn10 hb10 hb79 hr7 hU7 h8s h9r hb710 hmin
      by_cases hnp : (0 : Int) < (mm.length : Int)
      case neg =>
        go_wp2
        go_ret
        exact ⟨a10, c10, mm, rfl, hX10, HMM.out, hr10.mono (by omega), hU10⟩
      go_wp2_with fail
      refine (s_pick hr10 (by omega) (by omega) (by omega)).mono ?_
      rintro e w11 ⟨v, rfl, hv, hr11, hu11⟩
      have hX11 := hX10.upd hu11 hlt
      have hU11 := hU10.upd hu11
      have hs11 := hU11.size
      have hv0 := hv.1
      clear hX10 hr10 hU10 hu11 hv
      by_cases e0 : v = 0
      case neg =>
        have hvne : (v == 0) = false := by rw [beq_eq_false_iff_ne]; exact e0
        go_wp2
        go_ret
        exact ⟨a10, c10, mm, rfl, hX11, HMM.out, hr11.mono (by omega), hU11⟩
      subst e0
      go_wp2_with fail
      refine (s_pick hr11 (by omega) (by omega) (by omega)).mono ?_
      rintro e w12 ⟨v, rfl, hv, hr12, hu12⟩
      obtain ⟨k, rfl⟩ := Int.eq_ofNat_of_zero_le hv.1
      have hk := hv.2 (by omega)
      have hkl : k < mm.length := by omega
      have hX12 := hX11.upd hu12 hlt
      have hU12 := hU11.upd hu12
      have hs12 := hU12.size
      clear hX11 hr11 hU11 hu12 hv
      obtain ⟨a13, c13, e13, hR⟩ := hX12.riic
      cases e13
      obtain ⟨b5, o5, a5, c5, r5, ha5, _, hb5, _⟩ := hR.rii.at hkl
      subst ha5
      have hcap := hR.cap
      have hto := sliceToII (b := b5) (o := o5) (n := mm.length) (c := c10) (k := k) (z := (k : Int)) rfl (by omega)
      obtain ⟨o', ho', hfrom⟩ := sliceFromII (b := b5) (o := o5) (n := mm.length) (c := c10) (k := k + 1) (z := IntKind.i64.wrap ((k : Int) + 1)) (by rw [IntWalk.i64_in _ (by omega)]; omega) (by omega) hcap
      have hst := (OwnRR.made w12 w.heap.size w.heap.size w12.heap.size (by omega) (.inr (Nat.le_refl _))).drew
      have hbA := (Below.refl _ w12).alloc (Nat.le_refl w12.heap.size) (.cells #[] 45)
      have hs1' := (hR.rii.below hbA (Nat.le_refl _)).drew
      have HO := Lib.hid ho'
      have HTL : Hid (k = (mm.take k).length) := by show _ = _; simp; omega
      have HDL : Hid (mm.length - (k + 1) = (mm.drop (k + 1)).length) := by show _ = _; simp
      have hwB : w.heap.size ≤ (w12.alloc (.cells #[] 45)).drew.heap.size := by simp; omega
      have hwh : w12.heap.size ≤ (w12.alloc (.cells #[] 45)).drew.heap.size := by simp
      have hl0 : ([] : List (List Int)).length ≤ 1099511627776 := by simp
      have hl1' : (mm.take k).length ≤ 1099511627776 := by simp; omega
      have hl2 : (mm.drop (k + 1)).length ≤ 1099511627776 := by simp; omega
      have HSPL : Hid (SPJ (mm.take k ++ mm.drop (k + 1))) := by
        refine ⟨by simp; omega, fun r hr => ?_⟩
        rcases List.mem_append.1 hr with hr | hr
        · exact HMM.out.2 r (List.mem_of_mem_take hr)
        · exact HMM.out.2 r (List.mem_of_mem_drop hr)
      clear ho' hR hX12
      go_wp2_with fail
      go_region_law ((first
        | (refine step_appRN (by rfl) _ _ (by rfl) w.heap.size w.heap.size w12.heap.size _ [] (mm.take k) (by rfl) hst hwB hwh ⟨b5, o5, none⟩ _ _ HTL.out (by rfl) (hs1'.take k) hl0 hl1' ?_; intro v1 w13 hown1 hk1 _; rw [List.nil_append] at hown1; have hs2' := hs1'.kp hk1 hwh; have hk1s := Nat.le_trans hwB hk1.size; have hk1h := Nat.le_trans hwh hk1.size; clear hst)
        | (refine step_appRN (by rfl) _ _ (by rfl) w.heap.size w.heap.size w12.heap.size _ (mm.take k) (mm.drop (k + 1)) (by rfl) hown1 hk1s hk1h ⟨b5, o', none⟩ _ _ HDL.out (by rfl) (hs2'.drop HO.out) hl1' hl2 ?_; intro v2 w14 hown2 hk2 _)))
      have hw2 := Nat.le_trans hk1h hk2.size
      have hX14 := OwnX.ofRR hown2 (Nat.le_refl _) hw2
      have hKb : Kp w12.heap.size w.heap.size w12.heap.size w12 w14 := ⟨(hk1.trans hk2).os, (hk1.trans hk2).tape, (hk1.trans hk2).output, by have := (hk1.trans hk2).size; simp at this ⊢; omega, fun j hj hjo => by
        have h1 := (hk1.trans hk2).block j (by simp; omega) (by by_cases hjw : j < w.heap.size; exact .inl hjw; exact .inr ⟨by omega, by omega⟩)
        exact h1.trans (hbA.block j (by omega))⟩
      have hb14 := hKb.below (Nat.le_refl _)
      have hr14 := hr12.below hb14 hr12.lt
      have hU14 := hU12.below hb14 (by omega)
      obtain ⟨m2, hm2⟩ : ∃ x, mm.take k ++ mm.drop (k + 1) = x := ⟨_, rfl⟩
      have HS2 : Hid (SPJ m2) := by show SPJ _; rw [← hm2]; exact HSPL.out
      rw [hm2] at hX14
      clear hm2
      obtain ⟨a14, c14, hv14, _⟩ := hX14.riic
      subst hv14
      clear hown1 hown2 hk1 hk2 hKb hb14 hr12 hU12 hs1' hs2'
      go_wp2
      go_ret
      exact ⟨_, _, m2, rfl, hX14, HS2.out, hr14.mono (by omega), hU14⟩

end Go.Proofs.YtpioldgpfpmjiaaGreatDoor
