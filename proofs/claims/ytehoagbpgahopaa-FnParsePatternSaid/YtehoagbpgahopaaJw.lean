/- Walks: models, patterns with their levels, texts that are mutated; what FnParsePattern draws. -/
import Derived.Test.YtehoagbpgahopaaJr
import Derived.Test.YtehoagbpgahopaaJt
import Derived.Test.YtehoagbpgahopaaWo
import Derived.Deep.RegionWith
namespace Go.Proofs.Ytehoagbpgahopaa
open Go.RowKit

/-- numbers from lo to 2 -/
def BdJ (lo : Int) (l : List Int) : Prop := ∀ y ∈ l, lo ≤ y ∧ y ≤ 2
theorem BdJ.nil (lo : Int) : BdJ lo [] := by simp [BdJ]
theorem BdJ.mono {lo lo' : Int} {l : List Int} (h : BdJ lo l) (hl : lo' ≤ lo) : BdJ lo' l := fun y hy => ⟨by have := h y hy; omega, (h y hy).2⟩
theorem BdJ.snoc {lo : Int} {l : List Int} {x : Int} (h : BdJ lo l) (hx : lo ≤ x ∧ x ≤ 2) : BdJ lo (l ++ [x]) := fun y hy => by
  rcases List.mem_append.1 hy with hy | hy
  · exact h y hy
  · rw [List.mem_singleton] at hy; rw [hy]; exact hx
theorem BdJ.set {lo : Int} {l : List Int} {k : Nat} {x : Int} (h : BdJ lo l) (hx : lo ≤ x ∧ x ≤ 2) : BdJ lo (l.set k x) := fun y hy => by
  rcases List.mem_or_eq_of_mem_set hy with hy | hy
  · exact h y hy
  · exact hy ▸ hx
theorem mx1_bJ {x : Int} (h : x ≤ 3) : 1 ≤ mx1 x ∧ mx1 x ≤ 3 := by unfold mx1; split <;> omega

set_option maxRecDepth 100000 in
set_option maxHeartbeats 2000000 in
theorem s_goodModelJ {b K : Nat} {w : World} (hr : Rdr w b K) (hK : K ≤ 1000000) :
    Calls Try.prog 123 #[.pointer (some ⟨b, 0, none⟩)] w (Dl w b (K + 6) w.heap.size (MdJ 5)) := by
  have hlt := hr.lt
  obtain ⟨W1, hW1⟩ : ∃ W, w.alloc (.cells #[] 3) = W := ⟨_, rfl⟩
  have hb1 : Below w.heap.size w W1 := by rw [← hW1]; exact (Below.refl w.heap.size w).alloc (Nat.le_refl _) _
  have hs1 : w.heap.size + 1 ≤ W1.heap.size := by rw [← hW1]; simp
  have ho1 : OwnL W1 w.heap.size (.slice (some ⟨w.heap.size, 0, none⟩) 0 0) [] := by rw [← hW1]; exact OwnL.made w w.heap.size (Nat.le_refl _)
  have hb2 := (Below.refl W1.heap.size W1).alloc (Nat.le_refl _) (.cells #[.int .i64 3, .int .i64 3, .int .i64 4, .int .i64 2, .int .i64 3, .int .i64 1, .int .i64 5] 3)
  go_enter Try.func123, Try.ntmps123
  go_wp2_with fail
  refine (s_one ((hr.below hb1 hlt).below hb2 (by omega)) (by omega) (litW W1 _ [3, 3, 4, 2, 3, 1, 5] rfl) (by simp) (by simp) (.inr (by omega)) (by simp)).mono ?_
  rintro e w2 ⟨n, rfl, hn, hr2, hu2⟩
  have hn5 : 1 ≤ n ∧ n ≤ 5 := by simp at hn; omega
  have ho2 := (ho1.same fun g _ h2 => hb2.block g h2).upd hu2 hlt
  have hU2 : UpB b w.heap.size w w2 := (((UpB.refl b w.heap.size w).below hb1 (Nat.le_refl _)).below hb2 (by omega)).upd hu2
  have hs2 := hU2.size
  clear hr hb1 hb2 ho1 hu2 hn hs1
  go_wp2
  go_loopw [3] (fun v wr => ∃ (a : Option Addr) (c : Nat) (l : List Int), v = .slice a l.length c ∧ OwnL wr w.heap.size (.slice a l.length c) l ∧ MdJ n.toNat l ∧ Rdr wr b (K + 1 + l.length) ∧ UpB b w.heap.size w wr) (fun v _ => n.toNat - lenV v)
  case atStart => exact ⟨_, _, [], rfl, ho2, ⟨Nat.zero_le _, by simp⟩, hr2, hU2⟩
  case round =>
    clear ho2 hr2 hU2
    obtain ⟨a, c, l, rfl, ho, hL, hr, hU⟩ := hrel
    have hl1 := hL.1
    have hlw := hr.lt
    have hszr := hU.size
    have HL := Lib.hid hL
    clear hL hW1
    by_cases hlt2 : (l.length : Int) < n
    · have hb3 := (Below.refl wr.heap.size wr).alloc (Nat.le_refl _) (.cells #[.int .i64 2, .int .i64 2, .int .i64 3, .int .i64 2, .int .i64 1] 3)
      go_wp2_with fail
      refine (s_one (hr.below hb3 hlw) (by omega) (litW wr _ [2, 2, 3, 2, 1] rfl) (by simp) (by simp) (.inr hlw) (by simp)).mono ?_
      rintro e w3 ⟨x, rfl, hx, hr3, hu3⟩
      have hx3 : 1 ≤ x ∧ x ≤ 3 := by simp at hx; omega
      have ho3 := (ho.same fun g _ h2 => hb3.block g h2).upd hu3 hlt
      have hU3 := (hU.below hb3 (by omega)).upd hu3
      have hs3 := hU3.size
      clear ho hr hU hu3 hx hb3
      go_wp2_with (first
        | (at_builtin; refine wpList_app1 rfl _ _ rfl w.heap.size _ l rfl ho3 x rfl (by omega) hs3 ?_; intro v4 w4 ho4 hb4)
        | go_in)
      obtain ⟨a4, c4, rfl, _⟩ := ho4.slice
      have hr4 := hr3.below hb4 hlt
      have hU4 := hU3.below hb4 (Nat.le_refl _)
      have HL4 : Hid (MdJ n.toNat (l ++ [x])) := ⟨by simp; omega, fun y hy => by rcases List.mem_append.1 hy with hy | hy; exact HL.out.2 y hy; rw [List.mem_singleton] at hy; rw [hy]; exact hx3⟩
      clear ho3 hr3 hU3 hb4
      go_roundw
      case rel => exact ⟨a4, c4, l ++ [x], rfl, ho4, HL4.out, hr4.mono (by simp; omega), hU4⟩
      case measure => simp [lenV]; omega
    · go_wp2
      go_ret
      exact ⟨a, c, l, rfl, ho, ⟨by have := HL.out.1; omega, HL.out.2⟩, hr.mono (by omega), hU⟩

set_option maxRecDepth 100000 in
set_option maxHeartbeats 2000000 in
theorem s_aTestJ {b K lo hi c : Nat} {a : Option Addr} {m : List Int} {w : World} (hr : Rdr w b K) (hm : RI w lo hi a m) (hhi : hi ≤ w.heap.size) (hlo : b < lo) (hL : MdJ 5 m) (hK : K + 5 ≤ 1000000) :
    Calls Try.prog 221 #[.pointer (some ⟨b, 0, none⟩), .slice a m.length c] w (Dl w b (K + 5) w.heap.size (fun l => l.length = m.length ∧ BdJ 0 l)) := by
  have hlt := hr.lt
  have hl1 := hL.1
  have HL := Lib.hid hL; clear hL
  obtain ⟨W1, hW1⟩ : ∃ W, w.alloc (.cells #[] 3) = W := ⟨_, rfl⟩
  have hb1 : Below w.heap.size w W1 := by rw [← hW1]; exact (Below.refl w.heap.size w).alloc (Nat.le_refl _) _
  have ho1 : OwnL W1 w.heap.size (.slice (some ⟨w.heap.size, 0, none⟩) 0 0) [] := by rw [← hW1]; exact OwnL.made w w.heap.size (Nat.le_refl _)
  have hr1 := hr.below hb1 hlt
  have hU1 := (UpB.refl b w.heap.size w).below hb1 (Nat.le_refl _)
  go_enter Try.func221, Try.ntmps221
  go_wp2
  clear hW1 hb1
  go_loopw [5, 6] (fun v i wr => ∃ (k : Nat) (a : Option Addr) (c : Nat) (l : List Int), k ≤ m.length ∧ i = .int .i64 k ∧ v = .slice a l.length c ∧ OwnL wr w.heap.size (.slice a l.length c) l ∧ Hid (l.length = k ∧ BdJ 0 l) ∧ Rdr wr b (K + k) ∧ UpB b w.heap.size w wr) (fun _ i _ => m.length - (intOf i).toNat)
  case atStart => exact ⟨0, _, _, [], Nat.zero_le _, rfl, rfl, ho1, ⟨rfl, BdJ.nil _⟩, hr1, hU1⟩
  case round =>
    clear ho1 hr1 hU1
    obtain ⟨k, a3, c3, l, hk, rfl, rfl, ho, hL, hr, hU⟩ := hrel
    have hszr := hU.size
    have hlk := hL.out.1
    have hlk1 : l.length ≤ k := by omega
    clear hlk
    by_cases hlt2 : k < m.length
    · obtain ⟨b1, o1, x, ha, _, _, hcell, hx⟩ := (hm.upB hU hhi hhi hlo).at hlt2
      have hidx := idxI ha hlt2 c
      have hx4 := HL.out.2 x (List.mem_of_getElem? hx.out)
      have hmx := maxOne x
      have hmb := mx1_bJ hx4.2
      clear ha hm
      go_wp2_with fail
      refine (s_pick hr (by omega) (by omega) (by omega)).mono ?_
      rintro e w3 ⟨y, rfl, hy, hr3, hu3⟩
      have hy1 := hy.2 hmb.1
      have hy0 := hy.1
      have ho3 := ho.upd hu3 hlt
      have hU3 := hU.upd hu3
      have hs3 := hU3.size
      clear ho hr hU hu3 hy hmx
      go_wp2_with (first
        | (at_builtin; refine wpList_app1 rfl _ _ rfl w.heap.size _ l rfl ho3 y rfl (by omega) hs3 ?_; intro v4 w4 ho4 hb4)
        | go_in)
      obtain ⟨a4, c4, rfl, _⟩ := ho4.slice
      have hr4 := hr3.below hb4 hlt
      have hU4 := hU3.below hb4 (Nat.le_refl _)
      have HL4 : Hid ((l ++ [y]).length = k + 1 ∧ BdJ 0 (l ++ [y])) := ⟨by have := hL.out.1; simp; omega, hL.out.2.snoc (by omega)⟩
      clear ho3 hr3 hU3 hb4
      go_roundw
      case rel => exact ⟨k + 1, a4, c4, l ++ [y], by omega, by go_num, rfl, ho4, HL4, hr4.mono (by omega), hU4⟩
      case measure => simp [intOf]; omega
    · go_wp2
      go_ret
      have h9 := hL.out
      exact ⟨a3, c3, l, rfl, ho, ⟨by omega, h9.2⟩, hr.mono (by omega), hU⟩

set_option maxRecDepth 100000 in
set_option maxHeartbeats 4000000 in
theorem s_aPatternJ {b K lo hi c : Nat} {a : Option Addr} {m : List Int} {w : World} (hr : Rdr w b K) (hm : RI w lo hi a m) (hhi : hi ≤ w.heap.size) (hlo : b < lo) (hL : MdJ 5 m) (hK : K + 5 + 5 + 1 ≤ 1000000) :
    Calls Try.prog 169 #[.pointer (some ⟨b, 0, none⟩), .slice a m.length c] w (Dl w b (K + 5 + 5 + 1) w.heap.size (fun l => l.length = m.length ∧ BdJ (-1) l)) := by
  have hlt := hr.lt
  have hl1 := hL.1
  go_enter Try.func169, Try.ntmps169
  go_wp2_with fail
  refine (s_aTestJ hr hm hhi hlo hL (by omega)).mono ?_
  rintro e w1 ⟨a1, c1, l, rfl, ho1, hl, hr1, hU1⟩
  have HLL := Lib.hid hl
  have hll : l.length ≤ 5 := by omega
  have hs1 := hU1.size
  have hlt1 := hr1.lt
  have hb2 := (Below.refl w1.heap.size w1).alloc (Nat.le_refl _) (.cells #[.int .i64 2, .int .i64 3, .int .i64 2, .int .i64 4] 3)
  clear hl hL hr hm
  go_wp2_with fail
  refine (s_one (hr1.below hb2 hlt1) (by omega) (litW w1 _ [2, 3, 2, 4] rfl) (by simp) (by simp) (.inr hlt1) (by simp)).mono ?_
  rintro e w2 ⟨q, rfl, hq, hr2, hu2⟩
  have hq4 : 2 ≤ q ∧ q ≤ 4 := by simp at hq; omega
  have ho2 := (ho1.same fun g _ h2 => hb2.block g h2).upd hu2 hlt
  have hU2 := (hU1.below hb2 (by omega)).upd hu2
  obtain ⟨n, hn⟩ : ∃ n, l.length = n := ⟨_, rfl⟩
  have HN := Lib.hid hn
  rw [hn] at ho2 hll ⊢
  clear ho1 hr1 hU1 hu2 hq hb2 hn hs1
  go_wp2
  go_loopw [7] (fun i wr => ∃ (k : Nat) (l' : List Int), k ≤ n ∧ i = .int .i64 k ∧ OwnL wr w.heap.size (.slice a1 n c1) l' ∧ Hid (l'.length = n ∧ BdJ (-1) l') ∧ Rdr wr b (K + 5 + 1 + k) ∧ UpB b w.heap.size w wr) (fun i _ => n - (intOf i).toNat)
  case atStart => exact ⟨0, l, Nat.zero_le _, rfl, ho2, ⟨HN.out, HLL.out.2.mono (by omega)⟩, hr2.mono (by omega), hU2⟩
  case round =>
    clear ho2 hr2 hU2
    obtain ⟨k, l', hk, rfl, ho, hL', hr, hU⟩ := hrel
    have hszr := hU.size
    by_cases hlt2 : k < n
    · go_wp2_with fail
      refine (s_pick hr (by omega) (by omega) (by omega)).mono ?_
      rintro e w3 ⟨y, rfl, hy, hr3, hu3⟩
      have hy0 := hy.1
      have ho3 := ho.upd hu3 hlt
      have hU3 := hU.upd hu3
      clear ho hr hU hu3 hy
      by_cases hy1 : 0 < y
      · have hkl : k < l'.length := by have := hL'.out.1; omega
        obtain ⟨g, rfl, hg1, hg2, ⟨z, hcz⟩, hfz, hput⟩ := ho3.put hkl
        have hidx := idxI rfl hlt2 c1 (b := g) (o := 0)
        simp only [Nat.zero_add] at hidx
        have ho4 := Lib.hid (hput (-1))
        have hr4 : Hid (Rdr (w3.setCell ⟨g, k, none⟩ (.int .i64 (-1))) b (K + 5 + 1 + (k + 1))) := (hr3.mono (by omega)).same (fun j hj => Below.heap_setCell _ _ _ _ (by show j ≠ g; omega)) (by simp [World.setCell])
        have hU4 := Lib.hid (hU3.set (p := ⟨g, k, none⟩) hg1 (.int .i64 (-1)))
        have HL4 : Hid ((l'.set k (-1)).length = n ∧ BdJ (-1) (l'.set k (-1))) := ⟨by rw [List.length_set]; exact hL'.out.1, hL'.out.2.set (by omega)⟩
        clear ho3 hU3 hr3 hput
        go_wp2
        go_roundw
        case rel => exact ⟨k + 1, _, by omega, by go_num, ho4.out, HL4, hr4.out, hU4.out⟩
        case measure => simp [intOf]; omega
      · go_wp2
        go_roundw
        case rel => exact ⟨k + 1, l', by omega, by go_num, ho3, hL', hr3.mono (by omega), hU3⟩
        case measure => simp [intOf]; omega
    · go_wp2
      go_ret
      have h9 := hL'.out
      exact ⟨a1, c1, l', by rw [h9.1]; rfl, by rw [h9.1]; exact ho, ⟨by rw [h9.1, ← HN.out]; exact HLL.out.1, h9.2⟩, hr.mono (by omega), hU⟩

/-- one of some texts -/
def Pt (w : World) (b K n : Nat) (e : Ending) (w' : World) : Prop := ∃ s : ByteArray, e = .returned (.string s) ∧ s.size ≤ n ∧ Rdr w' b K ∧ Upd b (b + 1) w w'
theorem undTx : Try.prog.underlying 182 = some (.slice 9) := by kernel_rfl
theorem sizeTx (w : World) : (sizeOf 9).run Try.prog w = .ok 1 w := by kernel_rfl
theorem idxTx {b o n k : Nat} (hk : k < n) (cap : Nat) (wx : World) :
    (Instr.indexAt 182 (.slice (some ⟨b, o, none⟩) n cap) (.int .i64 (k : Int))).run Try.prog wx = .ok (.pointer (some ⟨b, o + k, none⟩)) wx := idx_run undTx sizeTx rfl hk cap wx

set_option maxRecDepth 100000 in
set_option maxHeartbeats 2000000 in
theorem s_of {b K g n c N : Nat} {w : World} (hr : Rdr w b K) (hK : K ≤ 1000000) (hn0 : 0 < n) (hn : n ≤ 1048576) (hg : b < g) (hgs : g < w.heap.size) (hc : ∀ k, k < n → ∃ s : ByteArray, w.cell? ⟨g, k, none⟩ = some (.string s) ∧ s.size ≤ N) :
    Calls Try.prog 236 #[.pointer (some ⟨b, 0, none⟩), .slice (some ⟨g, 0, none⟩) n c] w (Pt w b (K + 1) N) := by
  have HC := Lib.hid hc; clear hc
  go_enter Try.func236, Try.ntmps236
  go_wp2_with fail
  refine (s_pick hr (by omega) (by omega) (by omega)).mono ?_
  rintro e w1 ⟨v, rfl, hv, hr1, hu1⟩
  obtain ⟨k, rfl⟩ := Int.eq_ofNat_of_zero_le hv.1
  have hk := hv.2 (by omega)
  have hkl : k < n := by omega
  obtain ⟨s, hs, hsz⟩ := HC.out k hkl
  have hcell : w1.cell? ⟨g, k, none⟩ = some (.string s) := (World.cell?_of_block (w := w) (hu1.block g hgs (by omega))).trans hs
  have hidx := fun wx => idxTx (b := g) (o := 0) hkl c wx
  simp only [Nat.zero_add] at hidx
  clear hv hk
  go_wp2
  go_ret
  exact ⟨s, rfl, hsz, hr1, hu1⟩

theorem litsTx {X : World} {cs : Array Value} {N : Nat} (h : ∀ (k : Nat) (v : Value), cs[k]? = some v → ∃ s : ByteArray, v = .string s ∧ s.size ≤ N) : ∀ k, k < cs.size → ∃ s : ByteArray, (X.alloc (.cells cs 9)).cell? ⟨X.heap.size, k, none⟩ = some (.string s) ∧ s.size ≤ N := by
  intro k hk
  obtain ⟨s, hs, h2⟩ := h k cs[k] (by simp [hk])
  refine ⟨s, ?_, h2⟩
  rw [cell_of_row _ X.heap.size k cs 9 (0, 0) (heap_alloc_new X _), Array.getElem?_eq_getElem hk, hs]
set_option maxRecDepth 100000 in
set_option maxHeartbeats 8000000 in
theorem s_mutate {b K : Nat} {s : ByteArray} {w : World} (hr : Rdr w b K) (hK : K ≤ 900000) (hs : s.size ≤ 1000) :
    Calls Try.prog 170 #[.pointer (some ⟨b, 0, none⟩), .string s] w (fun e w' => ∃ s' : ByteArray, e = .returned (.string s') ∧ s'.size ≤ s.size + 4 ∧ Rdr w' b (K + 3) ∧ UpB b w.heap.size w w') := by
  have hlt := hr.lt
  go_enter Try.func170, Try.ntmps170
  go_wp2_with fail
  refine (s_pick hr (by omega) (by omega) (by omega)).mono ?_
  rintro e w1 ⟨k0, rfl, hk, hr1, hu1⟩
  obtain ⟨k, rfl⟩ := Int.eq_ofNat_of_zero_le hk.1
  have hkl : k ≤ s.size := by have := hk.2 (by omega); omega
  have hU1 := (UpB.refl b w.heap.size w).upd hu1
  have hs1 := hU1.size
  clear hk hu1 hr
  go_wp2_with fail
  refine (s_pick hr1 (by omega) (by omega) (by omega)).mono ?_
  rintro e w2 ⟨v, rfl, hv, hr2, hu2⟩
  have hv5 : 0 ≤ v ∧ v < 5 := ⟨hv.1, hv.2 (by omega)⟩
  have hU2 := hU1.upd hu2
  have hs2 := hU2.size
  have hlt2 := hr2.lt
  clear hv hu2 hU1 hr1
  have hq0 : Below w2.heap.size w2 w2 := Below.refl _ _
  have cs : (v = 0 ∨ v = 1) ∨ v = 2 ∨ v = 3 ∨ v = 4 := by omega
  rcases cs with hv | rfl | rfl | rfl
  · by_cases hkk : k < s.size
    · have HO1 : Hid (∀ X : World, Below w2.heap.size w2 X → Calls Try.prog 236 #[.pointer (some ⟨b, 0, none⟩), .slice (some ⟨X.heap.size, 0, none⟩) 8 8] (X.alloc (.cells #[.string ⟨#[48]⟩, .string ⟨#[49]⟩, .string ⟨#[50]⟩, .string ⟨#[46]⟩, .string ⟨#[44]⟩, .string ⟨#[45]⟩, .string ⟨#[97]⟩, .string ⟨#[32]⟩] 9)) (Pt ((X.alloc (.cells #[.string ⟨#[48]⟩, .string ⟨#[49]⟩, .string ⟨#[50]⟩, .string ⟨#[46]⟩, .string ⟨#[44]⟩, .string ⟨#[45]⟩, .string ⟨#[97]⟩, .string ⟨#[32]⟩] 9))) b (K + 3) 2)) := fun X hX => s_of (w := (X.alloc (.cells #[.string ⟨#[48]⟩, .string ⟨#[49]⟩, .string ⟨#[50]⟩, .string ⟨#[46]⟩, .string ⟨#[44]⟩, .string ⟨#[45]⟩, .string ⟨#[97]⟩, .string ⟨#[32]⟩] 9))) (g := X.heap.size) (n := 8) (c := 8) (N := 2) (hr2.below (belowA hX _) hlt2) (by omega) (by decide) (by decide) (by have := hX.size; omega) (by show X.heap.size < (X.alloc _).heap.size; simp) (litsTx (cs := #[.string ⟨#[48]⟩, .string ⟨#[49]⟩, .string ⟨#[50]⟩, .string ⟨#[46]⟩, .string ⟨#[44]⟩, .string ⟨#[45]⟩, .string ⟨#[97]⟩, .string ⟨#[32]⟩]) (N := 2) (fun k v hv => by rcases k with _ | _ | _ | _ | _ | _ | _ | _ | k <;> simp at hv <;> (subst hv; exact ⟨_, rfl, by decide⟩)))
      have HO2 : Hid (∀ X : World, Below w2.heap.size w2 X → Calls Try.prog 236 #[.pointer (some ⟨b, 0, none⟩), .slice (some ⟨X.heap.size, 0, none⟩) 8 8] (X.alloc (.cells #[.string ⟨#[48]⟩, .string ⟨#[49]⟩, .string ⟨#[50]⟩, .string ⟨#[46]⟩, .string ⟨#[44]⟩, .string ⟨#[45]⟩, .string ⟨#[97]⟩, .string ⟨#[32]⟩] 9)).drew (Pt ((X.alloc (.cells #[.string ⟨#[48]⟩, .string ⟨#[49]⟩, .string ⟨#[50]⟩, .string ⟨#[46]⟩, .string ⟨#[44]⟩, .string ⟨#[45]⟩, .string ⟨#[97]⟩, .string ⟨#[32]⟩] 9)).drew) b (K + 3) 2)) := fun X hX => s_of (w := (X.alloc (.cells #[.string ⟨#[48]⟩, .string ⟨#[49]⟩, .string ⟨#[50]⟩, .string ⟨#[46]⟩, .string ⟨#[44]⟩, .string ⟨#[45]⟩, .string ⟨#[97]⟩, .string ⟨#[32]⟩] 9)).drew) (g := X.heap.size) (n := 8) (c := 8) (N := 2) (hr2.below (belowD (belowA hX _)) hlt2) (by omega) (by decide) (by decide) (by have := hX.size; omega) (by show X.heap.size < (X.alloc _).heap.size; simp) (litsTx (cs := #[.string ⟨#[48]⟩, .string ⟨#[49]⟩, .string ⟨#[50]⟩, .string ⟨#[46]⟩, .string ⟨#[44]⟩, .string ⟨#[45]⟩, .string ⟨#[97]⟩, .string ⟨#[32]⟩]) (N := 2) (fun k v hv => by rcases k with _ | _ | _ | _ | _ | _ | _ | _ | k <;> simp at hv <;> (subst hv; exact ⟨_, rfl, by decide⟩)))
      have hw : IntKind.i64.wrap ((k : Int) + 1) = (k : Int) + 1 := IntWalk.i64_in _ (by omega)
      rcases hv with rfl | rfl
      all_goals
        go_wp2_with fail
        go_region_with (first
          | (go_at_call 236; refine (HO1.out _ (by (repeat (first | with_reducible exact hq0 | with_reducible refine belowA ?_ _ | with_reducible refine belowD ?_)))).mono ?_; rintro e w5 ⟨q, rfl, hq, hr5, hu5⟩; have hU5 : UpB b w2.heap.size w2 w5 := UpB.upd ((UpB.refl b w2.heap.size w2).below (by (repeat (first | with_reducible exact hq0 | with_reducible refine belowA ?_ _ | with_reducible refine belowD ?_))) (Nat.le_refl _)) hu5)
          | (go_at_call 236; refine (HO2.out _ (by (repeat (first | with_reducible exact hq0 | with_reducible refine belowA ?_ _ | with_reducible refine belowD ?_)))).mono ?_; rintro e w5 ⟨q, rfl, hq, hr5, hu5⟩; have hU5 : UpB b w2.heap.size w2 w5 := UpB.upd ((UpB.refl b w2.heap.size w2).below (by (repeat (first | with_reducible exact hq0 | with_reducible refine belowA ?_ _ | with_reducible refine belowD ?_))) (Nat.le_refl _)) hu5))
        all_goals
          go_wp2
          go_ret
          exact ⟨_, rfl, by simp [ByteArray.size_append, ByteArray.size_extract]; omega, hr5.mono (by omega), hU2.trans (hU5.less (by omega))⟩
    · rcases hv with rfl | rfl
      all_goals
        go_wp2
        go_ret
        exact ⟨s, rfl, by omega, hr2.mono (by omega), hU2⟩
  · go_wp2
    go_ret
    exact ⟨_, rfl, by simp [ByteArray.size_extract]; omega, hr2.mono (by omega), hU2⟩
  · have HO1 : Hid (∀ X : World, Below w2.heap.size w2 X → Calls Try.prog 236 #[.pointer (some ⟨b, 0, none⟩), .slice (some ⟨X.heap.size, 0, none⟩) 5 5] (X.alloc (.cells #[.string ⟨#[48]⟩, .string ⟨#[44]⟩, .string ⟨#[32]⟩, .string ⟨#[46]⟩, .string ⟨#[44, 44]⟩] 9)) (Pt ((X.alloc (.cells #[.string ⟨#[48]⟩, .string ⟨#[44]⟩, .string ⟨#[32]⟩, .string ⟨#[46]⟩, .string ⟨#[44, 44]⟩] 9))) b (K + 3) 2)) := fun X hX => s_of (w := (X.alloc (.cells #[.string ⟨#[48]⟩, .string ⟨#[44]⟩, .string ⟨#[32]⟩, .string ⟨#[46]⟩, .string ⟨#[44, 44]⟩] 9))) (g := X.heap.size) (n := 5) (c := 5) (N := 2) (hr2.below (belowA hX _) hlt2) (by omega) (by decide) (by decide) (by have := hX.size; omega) (by show X.heap.size < (X.alloc _).heap.size; simp) (litsTx (cs := #[.string ⟨#[48]⟩, .string ⟨#[44]⟩, .string ⟨#[32]⟩, .string ⟨#[46]⟩, .string ⟨#[44, 44]⟩]) (N := 2) (fun k v hv => by rcases k with _ | _ | _ | _ | _ | _ | _ | _ | k <;> simp at hv <;> (subst hv; exact ⟨_, rfl, by decide⟩)))
    go_wp2_with fail
    refine (HO1.out _ hq0).mono ?_
    rintro e w5 ⟨q, rfl, hq, hr5, hu5⟩
    have hU5 : UpB b w2.heap.size w2 w5 := UpB.upd ((UpB.refl b w2.heap.size w2).below (belowA hq0 _) (Nat.le_refl _)) hu5
    go_wp2
    go_ret
    exact ⟨_, rfl, by simp [ByteArray.size_append]; omega, hr5.mono (by omega), hU2.trans (hU5.less (by omega))⟩
  · go_wp2
    go_ret
    exact ⟨s, rfl, by omega, hr2.mono (by omega), hU2⟩

set_option maxRecDepth 100000 in
set_option maxHeartbeats 4000000 in
theorem s_DrawParsePattern {n : Nat} {a : Option Addr} {c : Nat} {w : World} (hm : RB w w.heap.size a n) (hc : n ≤ c) (hl : n ≤ 1048576) :
    Calls Try.prog 58 #[.slice a n c] w (fun e w' => ∃ (a1 : Option Addr) (c1 : Nat) (m : List Int) (s : ByteArray), e = .returned (.tuple #[.slice a1 m.length c1, .string s]) ∧ (Got w w' 10 a1 c1 m ∧ s.size ≤ 64) ∧ Below w.heap.size w w') := by
  go_enter Try.func58, Try.ntmps58
  go_wp2_with fail
  refine (s_newReader hm hc hl).mono ?_
  rintro e w1 ⟨rfl, hr1, hb1⟩
  have hlt := hr1.lt
  go_wp2_with fail
  refine (s_goodModelJ hr1 (by omega)).mono ?_
  rintro e w2 ⟨a2, c2, m, rfl, ho2, hL2, hr2, hU2⟩
  have hs2 := hU2.size
  have hm5 := hL2.1
  have HL5 : Hid (LP 5 m) := hL2.lp (Nat.le_refl _)
  obtain ⟨_, _, e2, hoi2⟩ := ho2.slice
  cases e2
  go_wp2_with fail
  refine (s_aPatternJ hr2 hoi2.ri (Nat.le_refl _) hlt hL2 (by omega)).mono ?_
  rintro e w3 ⟨a3, c3, p, rfl, ho3, ⟨hpl, hpb⟩, hr3, hU3⟩
  have hs3 := hU3.size
  obtain ⟨_, _, e3, hoi3⟩ := ho3.slice
  cases e3
  have HPX : Hid (∀ (k : Nat) (x : Int), p[k]? = some x → -1 ≤ x ∧ x ≤ 2) := fun k x hx => hpb x (List.mem_of_getElem? hx)
  have hp5 : p.length ≤ 5 := by omega
  clear hpl hpb hr2 hr1 hL2
  go_wp2_with fail
  refine (s_digits hoi3.ri hp5 HPX.out).mono ?_
  rintro e w4 ⟨rfl, d4⟩
  have d4 : Dr w3 w4 := d4
  have hb4 := Dr.below d4 w3.heap.size
  have hs4 := Dr.le d4
  have hr4 := hr3.below hb4 hr3.lt
  have hV4 : UpB w.heap.size w2.heap.size w2 w4 := hU3.below hb4 (by omega)
  obtain ⟨T, hT⟩ : ∃ T, txS p = T := ⟨_, rfl⟩
  have hTs : T.size ≤ 5 := by rw [← hT, txS_size]; exact hp5
  rw [hT]
  clear hT hb4 d4 hr3 hU3 ho3 hoi3
  go_wp2_with fail
  refine (s_pick hr4 (by omega) (by omega) (by omega)).mono ?_
  rintro e w5 ⟨v, rfl, hv, hr5, hu5⟩
  have hV5 := hV4.upd hu5
  have hs5 := hu5.size
  clear hr4 hV4 hu5 hv
  by_cases e0 : v = 0
  case neg =>
    have hvne : (v == 0) = false := by rw [beq_eq_false_iff_ne]; exact e0
    go_wp2_with fail
    refine (s_bentModel hr5 (by omega) (ho2.upBs hV5 hlt) rfl HL5.out (by omega) hlt (by omega)).mono ?_
    rintro e w9 ⟨a9, c9, m9, rfl, ho9, hL9, hr9, hU9⟩
    have hs9 := hU9.size
    have hcap9 := ho9.cap.2
    obtain ⟨_, _, e9, hoi9⟩ := ho9.slice
    cases e9
    have hUe := (hU2.trans (hV5.less (by omega))).trans (hU9.less (by omega))
    go_wp2
    go_ret2
    exact ⟨_, _, m9, T, rfl, ⟨⟨hoi9.ri.wide (by omega) (Nat.le_refl _), hL9, hcap9⟩, by omega⟩, hb1.trans (hUe.toBelow (by omega) (by omega))⟩
  subst e0
  go_wp2_with fail
  refine (s_mutate hr5 (by omega) (by omega)).mono ?_
  rintro e w6 ⟨T6, rfl, hT6, hr6, hU6⟩
  have hV6 := hV5.trans (hU6.less (by omega))
  have hs6 := hU6.size
  clear hr5 hV5 hU6
  go_wp2_with fail
  refine (s_bentModel hr6 (by omega) (ho2.upBs hV6 hlt) rfl HL5.out (by omega) hlt (by omega)).mono ?_
  rintro e w9 ⟨a9, c9, m9, rfl, ho9, hL9, hr9, hU9⟩
  have hs9 := hU9.size
  have hcap9 := ho9.cap.2
  obtain ⟨_, _, e9, hoi9⟩ := ho9.slice
  cases e9
  have hUe := (hU2.trans (hV6.less (by omega))).trans (hU9.less (by omega))
  go_wp2
  go_ret2
  exact ⟨_, _, m9, T6, rfl, ⟨⟨hoi9.ri.wide (by omega) (Nat.le_refl _), hL9, hcap9⟩, by omega⟩, hb1.trans (hUe.toBelow (by omega) (by omega))⟩

end Go.Proofs.Ytehoagbpgahopaa
