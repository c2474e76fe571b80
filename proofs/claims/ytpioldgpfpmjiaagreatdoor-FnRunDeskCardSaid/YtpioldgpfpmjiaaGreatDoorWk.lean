/- Walks: texts of patterns, read. -/
import Derived.Test.YtpioldgpfpmjiaaGreatDoorOwn
import Derived.Test.YtpioldgpfpmjiaaGreatDoorWc
import Derived.Test.YtpioldgpfpmjiaaGreatDoorWa
namespace Go.Proofs.YtpioldgpfpmjiaaGreatDoor
open Go.RowKit

def rdB (c : UInt8) : Int := if c = 46 then -1 else if c < 48 ∨ 57 < c then 4 else (c.toNat : Int) - 48
def rdL (s : ByteArray) : List Int := s.data.toList.map rdB
theorem rdL_len (s : ByteArray) : (rdL s).length = s.size := by simp [rdL]
theorem rdL_snoc (s : ByteArray) {k : Nat} (h : k < s.size) : (rdL s).take (k + 1) = (rdL s).take k ++ [rdB s[k]] := by
  have e : (rdL s)[k]? = some (rdB s[k]) := by
    have h' : k < s.data.toList.length := by simpa using h
    simp only [rdL, List.getElem?_map, List.getElem?_eq_getElem h', Option.map_some]; rfl
  exact take_snoc e

theorem rdB_dot {c : UInt8} (h : c = 46) : rdB c = -1 := by unfold rdB; rw [if_pos h]
theorem rdB_other {c : UInt8} (h : c ≠ 46) (h' : (c.toNat : Int) < 48 ∨ 57 < (c.toNat : Int)) : rdB c = 4 := by
  unfold rdB; rw [if_neg h, if_pos]
  rw [UInt8.lt_iff_toNat_lt, UInt8.lt_iff_toNat_lt]
  simp; omega
theorem rdB_digit {c : UInt8} (h : c ≠ 46) (h' : 48 ≤ (c.toNat : Int)) (h'' : (c.toNat : Int) ≤ 57) : rdB c = (c.toNat : Int) - 48 := by
  unfold rdB; rw [if_neg h, if_neg]
  rw [UInt8.lt_iff_toNat_lt, UInt8.lt_iff_toNat_lt]
  simp; omega
theorem byte_ne {c : UInt8} (h : c ≠ 46) : ((c.toNat : Int) == 46) = false := by
  rw [beq_eq_false_iff_ne]; intro he
  apply h
  apply UInt8.toNat_inj.1
  show c.toNat = 46
  omega

set_option maxHeartbeats 1000000 in
theorem s_readDigits {s : ByteArray} {w : World} (hs : s.size ≤ 1048576) :
    Calls Tryz.prog 27 #[.string s] w (NewI w (rdL s)) := by
  have hst := OwnL.made w w.heap.size (Nat.le_refl _)
  go_enter Tryz.func27, Tryz.ntmps27
  go_wp2
  go_loopw [3, 4] (fun v i wr => ∃ (k : Nat) (l : List Int), k ≤ s.size ∧ i = .int .i64 k ∧ l.length ≤ k ∧ OwnL wr w.heap.size v l ∧ Hid (l = (rdL s).take k) ∧ Below w.heap.size w wr) (fun _ i _ => s.size - (intOf i).toNat)
  case atStart => exact ⟨0, [], Nat.zero_le _, rfl, Nat.le_refl _, hst, by simp [Hid], (Below.refl _ _).alloc (Nat.le_refl _) _⟩
  case round =>
    obtain ⟨k, l, hk, rfl, hlk, hown, hl, hBl⟩ := hrel
    have hBs := hBl.size
    clear hst
    by_cases hlt : k < s.size
    · have hsn := Lib.hid (rdL_snoc s hlt)
      have step : ∀ x, rdB s[k] = x → Hid (l ++ [x] = (rdL s).take (k + 1)) := fun x hx => by show _ = _; rw [hsn.out, hx, ← hl.out]
      have HS := Lib.hid step; clear step
      have hb := UInt8.toNat_lt s[k]
      by_cases hc : s[k] = 46
      · have HX := HS.out _ (rdB_dot hc)
        have hc1 : ((s[k].toNat : Int) == 46) = true := by rw [hc]; rfl
        clear hc
        go_wp2_with (first
          | (at_builtin; refine wpList_app1 rfl _ _ rfl w.heap.size _ _ rfl hown _ rfl (by omega) (by omega) ?_; intro v' w1 hown1 hb1)
          | go_in)
        have hBl1 := hBl.trans hb1
        clear hown hb1 hBl
        go_wp2
        go_roundw
        case rel => exact ⟨k + 1, _, by omega, by go_num, by simp; omega, hown1, HX, hBl1⟩
        case measure => simp [intOf]; omega
      · have hc1 := byte_ne hc
        by_cases h48 : 48 ≤ (s[k].toNat : Int)
        · by_cases h57 : (s[k].toNat : Int) ≤ 57
          · have HX := HS.out _ (rdB_digit hc h48 h57)
            clear hc
            go_wp2_with (first
              | (at_builtin; refine wpList_app1 rfl _ _ rfl w.heap.size _ _ rfl hown _ rfl (by omega) (by omega) ?_; intro v' w1 hown1 hb1)
              | go_in)
            have hBl1 := hBl.trans hb1
            clear hown hb1 hBl
            go_wp2
            go_roundw
            case rel => exact ⟨k + 1, _, by omega, by go_num, by simp; omega, hown1, HX, hBl1⟩
            case measure => simp [intOf]; omega
          · have HX := HS.out _ (rdB_other hc (.inr (by omega)))
            clear hc
            go_wp2_with (first
              | (at_builtin; refine wpList_app1 rfl _ _ rfl w.heap.size _ _ rfl hown _ rfl (by omega) (by omega) ?_; intro v' w1 hown1 hb1)
              | go_in)
            have hBl1 := hBl.trans hb1
            clear hown hb1 hBl
            go_wp2
            go_roundw
            case rel => exact ⟨k + 1, _, by omega, by go_num, by simp; omega, hown1, HX, hBl1⟩
            case measure => simp [intOf]; omega
        · have HX := HS.out _ (rdB_other hc (.inl (by omega)))
          clear hc
          go_wp2_with (first
            | (at_builtin; refine wpList_app1 rfl _ _ rfl w.heap.size _ _ rfl hown _ rfl (by omega) (by omega) ?_; intro v' w1 hown1 hb1)
            | go_in)
          have hBl1 := hBl.trans hb1
          clear hown hb1 hBl
          go_wp2
          go_roundw
          case rel => exact ⟨k + 1, _, by omega, by go_num, by simp; omega, hown1, HX, hBl1⟩
          case measure => simp [intOf]; omega
    · go_wp2
      go_ret
      have h := hl.out
      rw [List.take_of_length_le (by rw [rdL_len]; omega)] at h
      subst h
      obtain ⟨a, c, rfl, hoi⟩ := hown.slice
      exact ⟨a, c, rfl, hoi, hBl⟩

/- Walks: ParsePattern. -/
open Go.RowKit

/-- A call that makes a slice of numbers of its own, and tells whether there is one. -/
def NewIB (w : World) (l : List Int) (b : Bool) (e : Ending) (w' : World) : Prop :=
  ∃ a c, e = .returned (.tuple #[.slice a l.length c, .bool b]) ∧ OI w' w.heap.size w'.heap.size a l ∧ Below w.heap.size w w'
def ppB (m : List Int) (s : ByteArray) : Bool := okM m && okP m (rdL s)
def ppL (m : List Int) (s : ByteArray) : List Int := if okM m && okP m (rdL s) then rdL s else []
theorem pp_yes {m : List Int} {s : ByteArray} (h : okM m = true) (h' : okP m (rdL s) = true) : ppL m s = rdL s ∧ ppB m s = true := by unfold ppL ppB; rw [h, h']; exact ⟨rfl, rfl⟩
theorem pp_no {m : List Int} {s : ByteArray} (h : okM m = false ∨ okP m (rdL s) = false) : ppL m s = [] ∧ ppB m s = false := by
  unfold ppL ppB
  rcases h with h | h <;> rw [h] <;> simp
theorem ppL_len (m : List Int) (s : ByteArray) : (ppL m s).length ≤ s.size := by
  unfold ppL
  split
  · rw [rdL_len]; exact Nat.le_refl _
  · exact Nat.zero_le _
theorem NewIB.none {w w' : World} {l : List Int} {b : Bool} (h : l = [] ∧ b = false) (hb : Below w.heap.size w w') : NewIB w l b (.returned (.tuple #[.slice none 0 0, .bool false])) w' := by
  obtain ⟨rfl, rfl⟩ := h
  exact ⟨_, _, rfl, OI.nil _ _ _ _, hb⟩
theorem NewIB.some {w w' : World} {l l' : List Int} {b : Bool} {a : Option Addr} {c n : Nat} (h : l = l' ∧ b = true) (hn : n = l'.length) (ho : OI w' w.heap.size w'.heap.size a l') (hb : Below w.heap.size w w') :
    NewIB w l b (.returned (.tuple #[.slice a n c, .bool true])) w' := by
  obtain ⟨rfl, rfl⟩ := h
  subst hn
  exact ⟨_, _, rfl, ho, hb⟩

/-- what the loop over the letters comes to at one of them -/
theorem pp_letter {c : UInt8} {y : Int} (h1 : 1 ≤ y) (h3 : y ≤ 3) :
    (c = 46 ∧ rdB c = -1 ∧ inR (rdB c) (-1) (y - 1) = true) ∨ (c ≠ 46 ∧ 48 ≤ (c.toNat : Int) ∧ (c.toNat : Int) - 48 < y ∧ rdB c = (c.toNat : Int) - 48 ∧ inR (rdB c) (-1) (y - 1) = true) ∨
    (c ≠ 46 ∧ (c.toNat : Int) < 48 ∧ inR (rdB c) (-1) (y - 1) = false) ∨ (c ≠ 46 ∧ 48 ≤ (c.toNat : Int) ∧ y ≤ (c.toNat : Int) - 48 ∧ inR (rdB c) (-1) (y - 1) = false) := by
  by_cases hc : c = 46
  · have := rdB_dot hc
    exact .inl ⟨hc, this, inR_true.2 (by omega)⟩
  by_cases h48 : 48 ≤ (c.toNat : Int)
  · by_cases hy : (c.toNat : Int) - 48 < y
    · have := rdB_digit hc h48 (by omega)
      exact .inr (.inl ⟨hc, h48, hy, this, inR_true.2 (by omega)⟩)
    · refine .inr (.inr (.inr ⟨hc, h48, by omega, inR_false.2 ?_⟩))
      by_cases h57 : (c.toNat : Int) ≤ 57
      · have := rdB_digit hc h48 h57; omega
      · have := rdB_other hc (.inr (by omega)); omega
  · have := rdB_other hc (.inl (by omega))
    exact .inr (.inr (.inl ⟨hc, by omega, inR_false.2 (by omega)⟩))
theorem rdL_at (s : ByteArray) {k : Nat} (h : k < s.size) : (rdL s)[k]? = some (rdB s[k]) := by
  have h' : k < s.data.toList.length := by simpa using h
  simp only [rdL, List.getElem?_map, List.getElem?_eq_getElem h', Option.map_some]; rfl

/-- .. with room for what it holds -/
def NewIBc (w : World) (l : List Int) (b : Bool) (e : Ending) (w' : World) : Prop :=
  ∃ a c, e = .returned (.tuple #[.slice a l.length c, .bool b]) ∧ OIc w' w.heap.size w'.heap.size a c l ∧ Below w.heap.size w w'
theorem NewIBc.none {w w' : World} {l : List Int} {b : Bool} (h : l = [] ∧ b = false) (hb : Below w.heap.size w w') : NewIBc w l b (.returned (.tuple #[.slice none 0 0, .bool false])) w' := by
  obtain ⟨rfl, rfl⟩ := h
  exact ⟨_, _, rfl, ⟨OI.nil _ _ _ _, Nat.le_refl _⟩, hb⟩
theorem NewIBc.some {w w' : World} {l l' : List Int} {b : Bool} {a : Option Addr} {c n : Nat} (h : l = l' ∧ b = true) (hn : n = l'.length) (ho : OIc w' w.heap.size w'.heap.size a c l') (hb : Below w.heap.size w w') :
    NewIBc w l b (.returned (.tuple #[.slice a n c, .bool true])) w' := by
  obtain ⟨rfl, rfl⟩ := h
  subst hn
  exact ⟨_, _, rfl, ho, hb⟩

set_option maxHeartbeats 2000000 in
theorem i_ParsePatternC {m : List Int} {s : ByteArray} {a : Option Addr} {c lo hi : Nat} {w : World} (hm : RI w lo hi a m) (hlm : m.length ≤ 9223372036854775807) (hs : s.size ≤ 1048576) (hB : hi ≤ w.heap.size) :
    Calls Tryz.prog 74 #[.slice a m.length c, .string s] w (NewIBc w (ppL m s) (ppB m s)) := by
  cases hok : okM m
  · have HOK := Lib.hid hok; clear hok
    go_enter Tryz.func74, Tryz.ntmps74
    go_wp2_with fail
    refine (i_ValidModel hm hlm).mono ?_
    rintro e w2 ⟨rfl, hd2⟩
    rw [HOK.out]
    go_wp2
    go_ret2
    exact NewIBc.none (pp_no (.inl HOK.out)) (Dr.below hd2 _)
  have hm5 := okM_len hok
  have HOK := Lib.hid hok; clear hok
  by_cases hlen : s.size = m.length
  case neg =>
    have h1 : ((s.size : Int) != (m.length : Int)) = true := by rw [bne_iff_ne]; omega
    have HP : Hid (okP m (rdL s) = false) := okW_no_len (by rw [rdL_len]; exact hlen)
    go_enter Tryz.func74, Tryz.ntmps74
    go_wp2_with fail
    refine (i_ValidModel hm hlm).mono ?_
    rintro e w2 ⟨rfl, hd2⟩
    rw [HOK.out]
    go_wp2
    go_ret2
    exact NewIBc.none (pp_no (.inr HP.out)) (Dr.below hd2 _)
  have h1 : ((s.size : Int) != (m.length : Int)) = false := by rw [bne_eq_false_iff_eq]; omega
  have HL := Lib.hid hlen; clear hlen
  have HLR : Hid ((rdL s).length = m.length) := (rdL_len s).trans HL.out
  have hle : m.length ≤ s.size := by rw [HL.out]; exact Nat.le_refl _
  have hmk := run_make_row' (P := Tryz.prog) 45 3 (.int .i64 0) 8 undI infoInt rfl .i64 .i64 m.length (by omega) (by omega)
  go_enter Tryz.func74, Tryz.ntmps74
  go_wp2_with fail
  refine (i_ValidModel hm hlm).mono ?_
  rintro e w0 ⟨rfl, hd⟩
  rw [HOK.out]
  have hd : Dr w w0 := hd
  have hz := Dr.le hd
  have hm0 := hm.dr hd
  have hS := row_start w0 m.length 3 (rdL s) HLR.out.symm
  go_wp2
  go_loopw [24] (fun i wr => ∃ k : Nat, k ≤ m.length ∧ i = .int .i64 k ∧ wr.rowIs w0.heap.size 3 (rdL s).length (fun i => .int .i64 (if i < k then (rdL s).getD i 0 else 0)) ∧ Hid ((((rdL s).zip m).take k).all (fun p => inR p.1 (-1) (p.2 - 1)) = true) ∧ Below w0.heap.size w0 wr) (fun i _ => m.length - (intOf i).toNat)
  case atStart => exact ⟨0, Nat.zero_le _, rfl, hS, by simp [Hid], (Below.refl _ _).alloc (Nat.le_refl _) _⟩
  case round =>
    clear hS hmk
    obtain ⟨k, hk, rfl, hR, hA, hBl⟩ := hrel
    by_cases hlt : k < m.length
    · have hls : k < s.size := by omega
      obtain ⟨b2, o2, y, ha2, _, _, hcell2, hy⟩ := (hm0.below hBl (by omega)).at hlt
      have hidx2 := idxI ha2 hlt c
      have hidx := idxI (a := some ⟨w0.heap.size, 0, none⟩) rfl hlt m.length
      simp only [Nat.zero_add] at hidx
      have hy3 := okM_at HOK.out hy.out
      have hxk := Lib.hid (rdL_at s hls)
      have hltR : k < (rdL s).length := by rw [HLR.out]; exact hlt
      have hfr := hR.frozen k
      have hcl := hR.cell hltR
      have hst := row_step hR hxk.out
      have hBl2 := fun v => hBl.setCell (p := ⟨w0.heap.size, k, none⟩) (Nat.le_refl _) v
      have HST := Lib.hid hst
      have HB2 := Lib.hid hBl2
      have hub := UInt8.toNat_lt s[k]
      clear ha2 hm hm0 hR hst hBl2
      rcases pp_letter (c := s[k]) hy3.1 hy3.2 with ⟨hc, hr, hin⟩ | ⟨hc, h48, hcy, hr, hin⟩ | ⟨hc, h48, hin⟩ | ⟨hc, h48, hcy, hin⟩
      · have hc1 : ((s[k].toNat : Int) == 46) = true := by rw [hc]; rfl
        have HS := HST.out
        rw [hr] at HS
        have HBB := HB2.out (.int .i64 (-1))
        have HIN := Lib.hid hin
        clear hc hr hin hBl
        go_wp2
        go_roundw
        case rel => exact ⟨k + 1, by omega, by go_num, HS, okW_step hxk.out hy.out hA.out HIN.out, HBB⟩
        case measure => simp [intOf]; omega
      · have hc1 := byte_ne hc
        have HS := HST.out
        rw [hr] at HS
        have HBB := HB2.out (.int .i64 ((s[k].toNat : Int) - 48))
        have HIN := Lib.hid hin
        clear hc hr hin hBl
        go_wp2
        go_roundw
        case rel => exact ⟨k + 1, by omega, by go_num, HS, okW_step hxk.out hy.out hA.out HIN.out, HBB⟩
        case measure => simp [intOf]; omega
      · have hc1 := byte_ne hc
        have HIN := Lib.hid hin
        clear hc hin
        go_wp2
        go_ret2
        exact NewIBc.none (pp_no (.inr (okW_fails hxk.out hy.out HIN.out))) ((Dr.below hd _).trans (hBl.mono (by omega)))
      · have hc1 := byte_ne hc
        have HIN := Lib.hid hin
        clear hc hin
        go_wp2
        go_ret2
        exact NewIBc.none (pp_no (.inr (okW_fails hxk.out hy.out HIN.out))) ((Dr.below hd _).trans (hBl.mono (by omega)))
    · have hR2 := row_end hR (by rw [HLR.out]; omega)
      clear hR
      go_wp2
      go_ret2
      have hop : okP m (rdL s) = true := by
        have h := okW_end (.inr (show m.length ≤ k by omega)) hA.out
        rw [HLR.out] at h
        unfold okP; rw [← h]; simp
      refine NewIBc.some (pp_yes HOK.out hop) HLR.out.symm ?_ ((Dr.below hd _).trans (hBl.mono (by omega)))
      have h6 := OI.of_row hR2
      have h7 := hR2.lt
      refine ⟨?_, by rw [HLR.out]; exact Nat.le_refl _⟩
      intro i hi
      obtain ⟨b, o, e1, e2, e3, e4⟩ := h6 i hi
      exact ⟨b, o, e1, by omega, by omega, e4⟩

theorem i_ParsePattern {m : List Int} {s : ByteArray} {a : Option Addr} {c lo hi : Nat} {w : World} (hm : RI w lo hi a m) (hlm : m.length ≤ 9223372036854775807) (hs : s.size ≤ 1048576) (hB : hi ≤ w.heap.size) :
    Calls Tryz.prog 74 #[.slice a m.length c, .string s] w (NewIB w (ppL m s) (ppB m s)) :=
  (i_ParsePatternC hm hlm hs hB).mono fun _ _ ⟨a, c, e, h1, h2⟩ => ⟨a, c, e, h1.oi, h2⟩

end Go.Proofs.YtpioldgpfpmjiaaGreatDoor
