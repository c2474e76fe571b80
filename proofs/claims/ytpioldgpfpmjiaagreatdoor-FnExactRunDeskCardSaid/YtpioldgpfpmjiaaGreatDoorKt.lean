/- The desk of the program: what it leans on in memory; numbers' texts and builders by the library's contracts; digits, words. -/
import Derived.Test.YtpioldgpfpmjiaaGreatDoorKq
import Derived.Test.YtpioldgpfpmjiaaGreatDoorUv
import Derived.Shelf.LaysM
import Derived.Shelf.Strconv.Itoa3
import Derived.Lib.SmallJoins
import Derived.Test.YtpioldgpfpmjiaaGreatDoorUx
import Derived.Test.YtpioldgpfpmjiaaGreatDoorYj
import Derived.Deep.RegionHeld3
namespace Go.Proofs.YtpioldgpfpmjiaaGreatDoor
open Go Go.Shelf Go.RowKit

def itoaRen : Ren where
  f := fun x => match x with
    | 171 => 69
    | 243 => 83
    | 246 => 100
    | 283 => 112
    | 284 => 113
    | 285 => 114
    | 286 => 115
    | 129 => 119
    | 317 => 118
    | 318 => 120
    | 319 => 121
    | 320 => 122
    | 337 => 124
    | 338 => 125
    | n => n
  t := fun x => match x with
    | 3 => 3
    | 9 => 9
    | 2 => 2
    | 4 => 4
    | 171 => 149
    | 0 => 0
    | 53 => 150
    | 37 => 28
    | 5 => 5
    | 173 => 153
    | 212 => 157
    | 51 => 146
    | 20 => 20
    | 213 => 158
    | 46 => 127
    | 232 => 163
    | 233 => 164
    | n => n
  g := fun x => match x with
    | 17 => 5
    | 18 => 6
    | 19 => 7
    | n => n

set_option maxRecDepth 100000 in
theorem itoaLays : LaysM.n171 Tryz.prog itoaRen := by
  constructor
  · constructor <;> first | kernel_rfl | (intro w; kernel_rfl)
  all_goals first | kernel_rfl | (intro w; kernel_rfl)

def bldRen : Ren where
  f := fun x => match x with
    | 166 => 13
    | 167 => 15
    | 169 => 16
    | 240 => 33
    | 276 => 46
    | n => n
  t := joinRen.t
  g := fun n => n

set_option maxRecDepth 100000 in
theorem bld166 : Lays.n166 Tryz.prog bldRen := by
  constructor <;> first | kernel_rfl | (intro w; kernel_rfl)
set_option maxRecDepth 100000 in
theorem bld167 : Lays.n167 Tryz.prog bldRen := by
  constructor <;> first | kernel_rfl | (intro w; kernel_rfl)
set_option maxRecDepth 100000 in
theorem bld169 : Lays.n169 Tryz.prog bldRen := by
  constructor <;> first | kernel_rfl | (intro w; kernel_rfl)
set_option maxRecDepth 100000 in
theorem bldExtra : Builder.Extra Tryz.prog bldRen := by
  refine { t5 := ?_, a5 := ?_, z5 := ?_, v5 := ?_, infoByte := ?_, cellsByte := ?_, sizeByte := ?_, neB5 := ?_, toX72 := ?_ } <;> first | kernel_rfl | (intro w; kernel_rfl) | (constructor <;> first | kernel_rfl | (intro w; kernel_rfl)) | decide

/-- the package's two errors, and the library's table -/
structure DeskW (w : World) (a0 a1 : Addr) : Prop where
  e0 : w.cell? ⟨0, 0, none⟩ = some (.iface 165 (.pointer (some a0)))
  e1 : w.cell? ⟨1, 0, none⟩ = some (.iface 165 (.pointer (some a1)))
  ne : a0 ≠ a1
  h0 : ∃ c t, w.heap[a0.block]? = some (.cells c t (0, 0))
  h1 : ∃ c t, w.heap[a1.block]? = some (.cells c t (0, 0))
  tab : Lib.TabIs Tryz.prog w "internal/strconv.uint64pow10" .u64 Lib.pow10Tab
theorem DeskW.below {w w' : World} {a0 a1 : Addr} {B : Nat} (h : DeskW w a0 a1) (hb : Below B w w') (hB : w.heap.size ≤ B) : DeskW w' a0 a1 where
  e0 := (hb.cell (p := ⟨0, 0, none⟩) (Nat.lt_of_lt_of_le (World.block_lt_of_cell? w _ h.e0) hB)).trans h.e0
  e1 := (hb.cell (p := ⟨1, 0, none⟩) (Nat.lt_of_lt_of_le (World.block_lt_of_cell? w _ h.e1) hB)).trans h.e1
  ne := h.ne
  h0 := by
    obtain ⟨c, t, e⟩ := h.h0
    have hl := (Array.getElem?_eq_some_iff.1 e).1
    exact ⟨c, t, (hb.block _ (by omega)).trans e⟩
  h1 := by
    obtain ⟨c, t, e⟩ := h.h1
    have hl := (Array.getElem?_eq_some_iff.1 e).1
    exact ⟨c, t, (hb.block _ (by omega)).trans e⟩
  tab := Go.Joins.tab_stays (g := 5) (by kernel_rfl) h.tab hb hB

theorem Below.grown {B : Nat} {w w' : World} (h : Below B w w') (os : Array Obj) (hB : B ≤ w'.heap.size) : Below B w (Go.Sort.grow w' os) :=
  h.trans ⟨rfl, rfl, rfl, by simp [Go.Sort.grow], fun k hk => by simp only [Go.Sort.grow]; rw [Array.getElem?_append_left (by omega)]⟩

theorem x_Itoa (n : Nat) {w : World} (hn : n ≤ 1048576) (ht : Lib.TabIs Tryz.prog w "internal/strconv.uint64pow10" .u64 Lib.pow10Tab) :
    Calls Tryz.prog 69 #[.int .i64 (n : Int)] w (NewV w (.string (nmS n))) := by
  refine (Any.strconv_Itoa itoaLays (n : Int) (by omega) (by omega) w ht).mono ?_
  rintro e w' ⟨he, k, os, hw⟩
  refine ⟨he, ?_⟩
  rw [hw]
  exact Below.grown (Dr.below ⟨k, rfl⟩ _) os (by simp)

/-- the digits of a text, or none -/
def dgC (c : UInt8) : Bool := decide (48 ≤ c.toNat) && decide (c.toNat ≤ 57)
def dgB (s : ByteArray) : Bool := s.data.toList.all dgC
def dgO (s : ByteArray) : List Int := if dgB s then rdL s else []
theorem dgO_no {s : ByteArray} {k : Nat} (h : k < s.size) (h2 : (s[k].toNat : Int) < 48 ∨ 57 < (s[k].toNat : Int)) : dgO s = [] := by
  have h3 : dgB s = false := by
    unfold dgB
    rw [Bool.eq_false_iff]
    intro hA
    have := List.all_eq_true.1 hA s[k] (by show s.data[k] ∈ _; simp)
    unfold dgC at this
    rw [Bool.and_eq_true, decide_eq_true_eq, decide_eq_true_eq] at this
    omega
  unfold dgO; rw [h3]; rfl
theorem dgO_yes {s : ByteArray} (h : (s.data.toList.take s.size).all dgC = true) : dgO s = rdL s := by
  have h3 : dgB s = true := by
    unfold dgB
    rw [List.take_of_length_le (by simp)] at h
    exact h
  unfold dgO; rw [h3]; rfl

set_option maxRecDepth 100000 in
set_option maxHeartbeats 2000000 in
theorem i_digitsOf {s : ByteArray} {w : World} (hs : s.size ≤ 1048576) :
    Calls Tryz.prog 61 #[.string s] w (NewI w (dgO s)) := by
  have hst := OwnL.nil w w.heap.size
  go_enter Tryz.func61, Tryz.ntmps61
  go_wp2
  go_loopw [3, 7] (fun v i wr => ∃ (k : Nat) (l : List Int), k ≤ s.size ∧ i = .int .i64 k ∧ l.length ≤ k ∧ OwnL wr w.heap.size v l ∧ Hid (l = (rdL s).take k) ∧ Hid ((s.data.toList.take k).all dgC = true) ∧ Below w.heap.size w wr) (fun _ i _ => s.size - (intOf i).toNat)
  case atStart => exact ⟨0, [], Nat.zero_le _, rfl, Nat.le_refl _, hst, by simp [Hid], by simp [Hid], Below.refl _ _⟩
  case round =>
    obtain ⟨k, l, hk, rfl, hlk, hown, hl, hA, hBl⟩ := hrel
    have hBs := hBl.size
    clear hst
    by_cases hlt : k < s.size
    · have hsn := Lib.hid (rdL_snoc s hlt)
      have step : ∀ x, rdB s[k] = x → Hid (l ++ [x] = (rdL s).take (k + 1)) := fun x hx => by show _ = _; rw [hsn.out, hx, ← hl.out]
      have HS := Lib.hid step; clear step
      have hb := UInt8.toNat_lt s[k]
      by_cases h48 : (s[k].toNat : Int) < 48
      · have HN := Lib.hid (dgO_no hlt (.inl h48))
        go_wp2
        go_ret
        rw [HN.out]
        exact ⟨none, 0, rfl, ⟨OI.nil _ _ _ _, by simp⟩, hBl⟩
      by_cases h57 : 57 < (s[k].toNat : Int)
      · have HN := Lib.hid (dgO_no hlt (.inr h57))
        go_wp2
        go_ret
        rw [HN.out]
        exact ⟨none, 0, rfl, ⟨OI.nil _ _ _ _, by simp⟩, hBl⟩
      · have hdot : s[k] ≠ 46 := by intro e; rw [e] at h48; exact h48 (by decide)
        have HX := HS.out _ (rdB_digit hdot (by omega) (by omega))
        have HA2 : Hid ((s.data.toList.take (k + 1)).all dgC = true) := by
          show _ = _
          rw [(at_byte hlt).2, List.all_append, hA.out]
          unfold dgC
          simp; omega
        clear hdot
        go_wp2_with (first
          | (at_builtin; refine wpList_app1 rfl _ _ rfl w.heap.size _ _ rfl hown _ rfl (by omega) (by omega) ?_; intro v' w1 hown1 hb1)
          | go_in)
        have hBl1 := hBl.trans hb1
        clear hown hb1 hBl
        go_wp2
        go_roundw
        case rel => exact ⟨k + 1, _, by omega, by go_num, by simp; omega, hown1, HX, HA2, hBl1⟩
        case measure => simp [intOf]; omega
    · have hks : k = s.size := by omega
      subst hks
      have HY := Lib.hid (dgO_yes hA.out)
      go_wp2
      go_ret
      have h := hl.out
      rw [List.take_of_length_le (by rw [rdL_len]; omega)] at h
      subst h
      obtain ⟨a, c, rfl, hoi⟩ := hown.slice
      rw [HY.out]
      exact ⟨a, c, rfl, hoi, hBl⟩

set_option maxRecDepth 100000 in
set_option maxHeartbeats 1000000 in
theorem i_answerOf0 {s : ByteArray} {w : World} (h : dkC s true false false) : Calls Tryz.prog 48 #[.string s] w fun e w' => e = .returned (.func (.func 58) #[] #[]) ∧ w' = w := by
  obtain ⟨e0, e1, e2⟩ := h
  go_enter Tryz.func48, Tryz.ntmps48
  go_wp2
  go_ret
  exact ⟨rfl, rfl⟩
set_option maxRecDepth 100000 in
set_option maxHeartbeats 1000000 in
theorem i_answerOf1 {s : ByteArray} {w : World} (h : dkC s false true false) : Calls Tryz.prog 48 #[.string s] w fun e w' => e = .returned (.func (.func 59) #[] #[]) ∧ w' = w := by
  obtain ⟨e0, e1, e2⟩ := h
  go_enter Tryz.func48, Tryz.ntmps48
  go_wp2
  go_ret
  exact ⟨rfl, rfl⟩
set_option maxRecDepth 100000 in
set_option maxHeartbeats 1000000 in
theorem i_answerOf2 {s : ByteArray} {w : World} (h : dkC s false false true) : Calls Tryz.prog 48 #[.string s] w fun e w' => e = .returned (.func (.func 60) #[] #[]) ∧ w' = w := by
  obtain ⟨e0, e1, e2⟩ := h
  go_enter Tryz.func48, Tryz.ntmps48
  go_wp2
  go_ret
  exact ⟨rfl, rfl⟩
set_option maxRecDepth 100000 in
set_option maxHeartbeats 1000000 in
theorem i_answerOf3 {s : ByteArray} {w : World} (h : dkC s false false false) : Calls Tryz.prog 48 #[.string s] w fun e w' => e = .returned .nilFunc ∧ w' = w := by
  obtain ⟨e0, e1, e2⟩ := h
  go_enter Tryz.func48, Tryz.ntmps48
  go_wp2
  go_ret
  exact ⟨rfl, rfl⟩

/- The desk of the program: the three answers to a question. -/
open Go.RowKit

theorem box3 (w : World) (x y z : Value) (T : TypeId) : (w.alloc (.cells #[x, y, z] T)).cell? ⟨w.heap.size, 0, none⟩ = some x ∧ (w.alloc (.cells #[x, y, z] T)).cell? ⟨w.heap.size, 1, none⟩ = some y ∧ (w.alloc (.cells #[x, y, z] T)).cell? ⟨w.heap.size, 2, none⟩ = some z := by
  have h := heap_alloc_new w (.cells #[x, y, z] T)
  refine ⟨?_, ?_, ?_⟩
  · rw [cell_of_row _ _ 0 _ _ _ h]; rfl
  · rw [cell_of_row _ _ 1 _ _ _ h]; rfl
  · rw [cell_of_row _ _ 2 _ _ _ h]; rfl
theorem su_yesK {m : List Int} {L : List (List Int)} (hm : okM m = true) (hs : okS m L = true) : suS m L = stT L := by
  unfold suS; rw [hm, hs]; rfl

set_option maxRecDepth 100000 in
set_option maxHeartbeats 4000000 in
theorem i_covered {m : List Int} {L : List (List Int)} {a a' : Option Addr} {c c' lo hi lo' hi' : Nat} {w : World} {t : Int} {a0 a1 : Addr} (hm : RI w lo hi a m) (hs : RII w lo' hi' a' L) (hlm : m.length ≤ 9223372036854775807) (hls : L.length ≤ 9223372036854775807) (hg : ∀ r ∈ L, r.length ≤ 9223372036854775807) (hB : hi ≤ w.heap.size) (hB' : hi' ≤ w.heap.size)
    (hokm : okM m = true) (hoks : okS m L = true) (ht0 : 0 ≤ t) (ht1 : t ≤ m.length) (hD : DeskW w a0 a1) :
    Calls Tryz.prog 58 #[.agg #[.slice a m.length c, .int .i64 t, .slice a' L.length c']] w (NewV w (.string (dkV 0 m L t))) := by
  obtain ⟨⟨ca, cb, hca, hcb, hca4, hcb4⟩, _, _⟩ := dk_facts hokm hoks ht0 ht1
  have hV : dkV 0 m L t = nmS ca ++ ⟨#[47]⟩ ++ nmS cb := by unfold dkV; rw [if_pos rfl, hca, hcb]
  have HV := Lib.hid hV
  have HCA := Lib.hid hca; have HCB := Lib.hid hcb
  have HG := Lib.hid hg
  have z1 := @nm_size ca
  have z2 := @nm_size cb
  have hl5 := okM_len hokm
  have hbA := (Below.refl w.heap.size w).alloc (Nat.le_refl _) (.cells #[.slice a m.length c, .int .i64 t, .slice a' L.length c'] 83)
  obtain ⟨k0, k1, k2⟩ := box3 w (.slice a m.length c) (.int .i64 t) (.slice a' L.length c') 83
  have hm1 := hm.below hbA hB
  have hs1 := hs.below hbA hB'
  have hD1 := hD.below hbA (Nat.le_refl _)
  clear hca hcb hV hokm hoks hg hm hs hD
  go_enter Tryz.func58, Tryz.ntmps58
  go_wp2_with fail
  refine (i_CoverageOf hm1 (by omega) hs1 (by omega) HG.out (by omega) (by omega) (by simp; omega) (by simp; omega)).mono ?_
  rintro e w4 ⟨rfl, b4⟩
  have hD4 := hD1.below b4 (Nat.le_refl _)
  have bb4 := hbA.trans (b4.mono (by simp))
  have y4 := bb4.size
  rw [HCA.out, HCB.out]
  clear hm1 hs1 hD1 b4 hbA k0 k1 k2
  go_wp2_with fail
  refine (x_Itoa ca (by omega) hD4.tab).mono ?_
  rintro e w5 ⟨rfl, b5⟩
  have hD5 := hD4.below b5 (Nat.le_refl _)
  have bb5 := bb4.trans (b5.mono y4)
  have y5 := bb5.size
  clear hD4 b5 bb4
  go_wp2_with fail
  refine (x_Itoa cb (by omega) hD5.tab).mono ?_
  rintro e w6 ⟨rfl, b6⟩
  have bb6 := bb5.trans (b6.mono y5)
  clear hD5 b6 bb5
  go_wp2
  go_ret
  rw [HV.out]
  exact ⟨rfl, bb6⟩

set_option maxRecDepth 100000 in
set_option maxHeartbeats 4000000 in
theorem i_grown {m : List Int} {L : List (List Int)} {a a' : Option Addr} {c c' lo hi lo' hi' : Nat} {w : World} {t : Int} (hm : RI w lo hi a m) (hs : RII w lo' hi' a' L) (hlm : m.length ≤ 9223372036854775807) (hls : L.length ≤ 9223372036854775807) (hg : ∀ r ∈ L, r.length ≤ 9223372036854775807) (hB : hi ≤ w.heap.size) (hB' : hi' ≤ w.heap.size)
    (hokm : okM m = true) (hoks : okS m L = true) (ht0 : 0 ≤ t) (ht1 : t ≤ m.length) :
    Calls Tryz.prog 59 #[.agg #[.slice a m.length c, .int .i64 t, .slice a' L.length c']] w (NewV w (.string (dkV 1 m L t))) := by
  have hgo := (dk_facts hokm hoks ht0 ht1).2.2
  have hV1 : gsB m L t = false → dkV 1 m L t = noneS := fun h => by unfold dkV; rw [if_neg (by decide), if_pos rfl, h]; rfl
  have hV2 : gsB m L t = true → dkV 1 m L t = suS m (gsL m L t) ∧ (gsL m L t).length ≤ 20 ∧ ∀ r ∈ gsL m L t, r.length ≤ 9223372036854775807 := fun h => by
    have h2 := su_okS hokm (hgo h)
    refine ⟨?_, h2.1, fun r hr => by have := (h2.2 r hr).1; omega⟩
    unfold dkV; rw [if_neg (by decide), if_pos rfl, h, su_yesK hokm (hgo h)]; rfl
  have HG := Lib.hid hg
  have hl5 := okM_len hokm
  have hbA := (Below.refl w.heap.size w).alloc (Nat.le_refl _) (.cells #[.slice a m.length c, .int .i64 t, .slice a' L.length c'] 83)
  obtain ⟨k0, k1, k2⟩ := box3 w (.slice a m.length c) (.int .i64 t) (.slice a' L.length c') 83
  have hm1 := hm.below hbA hB
  have hs1 := hs.below hbA hB'
  cases hgb : gsB m L t
  · have HGB := Lib.hid hgb; have HV := Lib.hid (hV1 hgb)
    clear hgb hV1 hV2 hgo hokm hoks hg hm hs
    go_enter Tryz.func59, Tryz.ntmps59
    go_wp2_with fail
    refine (i_GrowSuite hm1 (by omega) hs1 (by omega) HG.out (by omega) (by omega) (by simp; omega) (by simp; omega)).mono ?_
    rintro e w4 ⟨ga, gc4, rfl, g4, b4⟩
    rw [HGB.out]
    have bb4 := hbA.trans (b4.mono (by simp))
    go_wp2
    go_ret
    rw [HV.out]
    exact ⟨rfl, bb4⟩
  · have HGB := Lib.hid hgb; have hv2 := hV2 hgb
    have HV := Lib.hid hv2.1
    have hgl := hv2.2.1
    have HGR := Lib.hid hv2.2.2
    clear hgb hV1 hV2 hgo hokm hoks hg hm hs hv2
    go_enter Tryz.func59, Tryz.ntmps59
    go_wp2_with fail
    refine (i_GrowSuite hm1 (by omega) hs1 (by omega) HG.out (by omega) (by omega) (by simp; omega) (by simp; omega)).mono ?_
    rintro e w4 ⟨ga, gc4, rfl, g4, b4⟩
    rw [HGB.out]
    have bb4 := hbA.trans (b4.mono (by simp))
    have y4 := b4.size
    have q0 := (b4.cell (p := ⟨w.heap.size, 0, none⟩) (by simp)).trans k0
    have hm4 := hm1.below b4 (by simp; omega)
    simp only [World.size_alloc] at y4
    clear hm1 hs1 b4 hbA k0 k1 k2
    go_wp2_with fail
    refine (i_SuiteText hm4 (by omega) g4.rii (by omega) HGR.out (by omega) (Nat.le_refl _)).mono ?_
    rintro e w5 ⟨rfl, b5⟩
    go_wp2
    go_ret
    rw [HV.out]
    exact ⟨rfl, bb4.trans (b5.mono (by omega))⟩

set_option maxRecDepth 100000 in
set_option maxHeartbeats 4000000 in
theorem i_trimmed {m : List Int} {L : List (List Int)} {a a' : Option Addr} {c c' lo hi lo' hi' : Nat} {w : World} {t : Int} (hm : RI w lo hi a m) (hs : RII w lo' hi' a' L) (hlm : m.length ≤ 9223372036854775807) (hls : L.length ≤ 9223372036854775807) (hcap : L.length ≤ c') (hg : ∀ r ∈ L, r.length ≤ 9223372036854775807) (hB : hi ≤ w.heap.size) (hB' : hi' ≤ w.heap.size)
    (hokm : okM m = true) (hoks : okS m L = true) (ht0 : 0 ≤ t) (ht1 : t ≤ m.length) :
    Calls Tryz.prog 60 #[.agg #[.slice a m.length c, .int .i64 t, .slice a' L.length c']] w (NewV w (.string (dkV 2 m L t))) := by
  have hgo := (dk_facts hokm hoks ht0 ht1).2.1
  have h2 := su_okS hokm hgo
  have HV : Hid (dkV 2 m L t = suS m (trL m L t)) := by show _ = _; unfold dkV; rw [if_neg (by decide), if_neg (by decide), su_yesK hokm hgo]
  have hgl := h2.1
  have HGR : Hid (∀ r ∈ trL m L t, r.length ≤ 9223372036854775807) := fun r hr => by have := (h2.2 r hr).1; omega
  have HG := Lib.hid hg
  have hl5 := okM_len hokm
  obtain ⟨W1, hW1⟩ : ∃ W1, w.alloc (.cells #[.slice a m.length c, .int .i64 t, .slice a' L.length c'] 83) = W1 := ⟨_, rfl⟩
  have hbA := (Below.refl w.heap.size w).alloc (Nat.le_refl _) (.cells #[.slice a m.length c, .int .i64 t, .slice a' L.length c'] 83)
  obtain ⟨k0, k1, k2⟩ := box3 w (.slice a m.length c) (.int .i64 t) (.slice a' L.length c') 83
  have hsz1 : W1.heap.size = w.heap.size + 1 := by rw [← hW1]; simp
  rw [hW1] at hbA k0 k1 k2
  have hm1 := hm.below hbA hB
  have hs1 := hs.below hbA hB'
  have HS : Hid (∀ w', Below W1.heap.size W1 w' → w'.cell? ⟨w.heap.size, 0, none⟩ = some (.slice a m.length c) ∧ w'.cell? ⟨w.heap.size, 1, none⟩ = some (.int .i64 t) ∧ w'.cell? ⟨w.heap.size, 2, none⟩ = some (.slice a' L.length c')) := fun w' hb =>
    ⟨(hb.cell (p := ⟨w.heap.size, 0, none⟩) (by show w.heap.size < _; omega)).trans k0, (hb.cell (p := ⟨w.heap.size, 1, none⟩) (by show w.heap.size < _; omega)).trans k1, (hb.cell (p := ⟨w.heap.size, 2, none⟩) (by show w.heap.size < _; omega)).trans k2⟩
  have HC1 : Hid (∀ w', Below W1.heap.size W1 w' → Calls Tryz.prog 72 #[.slice a m.length c, .slice a' L.length c', .int .i64 t] w' (NewII w' (trL m L t))) := fun w' hb =>
    i_TrimSuite (hm1.below hb (by omega)) (by omega) (hs1.below hb (by omega)) (by omega) HG.out (by omega) (by omega) hcap (by have := hb.size; omega) (by have := hb.size; omega)
  have HC2 : Hid (∀ (w2 w3 : World) a5 c5, Below W1.heap.size W1 w2 → OIIc w2 w3.heap.size w2.heap.size a5 c5 (trL m L t) → Calls Tryz.prog 71 #[.slice a m.length c, .slice a5 (trL m L t).length c5] w2 (NewV' w2 (.string (suS m (trL m L t))))) := fun w2 w3 a5 c5 hb ho =>
    i_SuiteText (hm1.below hb (by omega)) (by omega) ho.rii (by omega) HGR.out (by have := hb.size; omega) (Nat.le_refl _)
  have hq1 : Below W1.heap.size W1 W1 := Below.refl _ _
  have HB1 := Lib.hid hbA
  have HW := Lib.hid hW1
  clear hokm hoks hg hm hs hgo h2 hm1 hs1 k0 k1 k2 hW1 hbA
  go_enter Tryz.func60, Tryz.ntmps60
  go_wp2_with fail
  rw [HW.out]
  go_region_held3 (fun w' => w'.cell? ⟨w.heap.size, 0, none⟩ = some (.slice a m.length c) ∧ w'.cell? ⟨w.heap.size, 1, none⟩ = some (.int .i64 t) ∧ w'.cell? ⟨w.heap.size, 2, none⟩ = some (.slice a' L.length c')) (first | exact HS.out _ (by first | exact hq3 | exact hq2 | exact hq1.drew | exact hq1) | go_keep) ((first
    | (go_at_call 72; refine (HC1.out _ (by first | exact hq1.drew | exact hq1)).mono ?_; rintro e w2 ⟨a5, c5, rfl, h5, hb5⟩; have hq2 : Below W1.heap.size W1 w2 := (by first | exact hq1.drew.trans hb5 | exact hq1.trans hb5))
    | (go_at_call 71; refine (HC2.out w2 _ _ _ hq2 h5).mono ?_; rintro e w3 ⟨rfl, b3⟩; have hq3 : Below W1.heap.size W1 w3 := hq2.trans (b3.mono hq2.size))))
  all_goals
    go_wp2
    go_ret
    rw [HV.out]
    exact ⟨rfl, HB1.out.trans (hq3.mono (by omega))⟩

end Go.Proofs.YtpioldgpfpmjiaaGreatDoor
