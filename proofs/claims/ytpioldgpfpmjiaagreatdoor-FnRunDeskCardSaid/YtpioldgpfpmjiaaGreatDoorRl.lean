/- What a walk is told of suites that are drawn. -/
import Derived.Test.YtpioldgpfpmjiaaGreatDoorRe
import Derived.Test.YtpioldgpfpmjiaaGreatDoorYi
import Derived.Lib.AppendZerosOnto
import Derived.Test.YtpioldgpfpmjiaaGreatDoorOx
namespace Go.Proofs.YtpioldgpfpmjiaaGreatDoor
open Go.RowKit

/-- append of one number; what was appended to still reads as it did -/
theorem run_app1k {w : World} (ty : TypeId) (B : Nat) (a : Option Addr) (n c : Nat) (l : List Int) (hown : OwnL w B (.slice a n c) l) (x : Int) (nw : Nat) (hnw : nw = w.heap.size) (hl : l.length ≤ 1099511627776) (hB : B ≤ w.heap.size) :
    ∃ v' w', (Builtin.append_ #[45, 45] ty #[.slice a n c, .slice (some ⟨nw, 0, none⟩) 1 1]).run Tryz.prog (w.alloc (.cells #[.int .i64 x] 3)) = .ok v' w' ∧ OwnL w' B v' (l ++ [x]) ∧ Below B w w' ∧ RI w' B w.heap.size a l ∧ ∀ g, g < w.heap.size → Value.ownBlock (.slice a n c) ≠ some g → w'.heap[g]? = w.heap[g]? := by
  subst hnw
  have hlt0 := World.ownsRow.lt hown
  obtain ⟨a0, c0, e0, hoi⟩ := hown.slice
  cases e0
  obtain ⟨i0, hi, hz0, hz1, hz2⟩ := info_parts infoInt
  have hownA := World.ownsRow.alloc hown (.cells #[.int .i64 x] 3)
  have hoiA : RI (w.alloc (.cells #[.int .i64 x] 3)) B w.heap.size a l := hoi.ri.same fun k _ h => Below.heap_alloc w _ k h
  obtain ⟨v', w', hr, h1, h2, _, h4⟩ := run_append_own_at (P := Tryz.prog) (w.alloc (.cells #[.int .i64 x] 3)) B 45 ty 3 i0 (.int .i64 0) 1 8 undI hi hz0 hz1 hz2 rfl (by decide) (.slice a l.length c) l.length (ints l) hownA ⟨w.heap.size, 0, none⟩ 1 1 [.int .i64 x] rfl
    (cell_one_new _ _ _) (fun u hu => by simp at hu; subst hu; rfl) (by unfold maxLen; omega) (by omega) (by simp; omega)
  have ho2 : OwnL w' B v' (l ++ [x]) := by unfold OwnL; rw [ints_snoc, List.length_append]; exact h1
  refine ⟨v', w', hr, ho2, ((Below.refl B w).alloc hB _).grown h2 (by simp; omega) fun k hk => (hlt0 k hk).1, ?_, fun g hg hn => (h2.block g (by simp; omega) fun e => hn e.symm).trans (Below.heap_alloc w _ g hg)⟩
  have hs2 := h2.size
  simp only [World.size_alloc] at hs2
  rcases hown.2 with ⟨hn, h0⟩ | ⟨g, cap, cur, hv, hbg, hg, hnc, hcm, hcs, ht⟩
  · rw [List.eq_nil_of_length_eq_zero h0]; exact RI.nil _ _ _ _
  · cases hv
    have hgl : g < w.heap.size := (Array.getElem?_eq_some_iff.1 hg).1
    have hgA : (w.alloc (.cells #[.int .i64 x] 3)).heap[g]? = some (.cells cur 3 (0, 0)) := by rw [Below.heap_alloc w _ g hgl]; exact hg
    by_cases hroom : l.length + 1 ≤ c
    · have hr2 := run_append_room (P := Tryz.prog) (w.alloc (.cells #[.int .i64 x] 3)) 45 ty 3 i0 undI hi g l.length c cur hgA ⟨w.heap.size, 0, none⟩ 1 1 [.int .i64 x] (by rw [hz1]; rfl) (cell_one_new _ _ _) (fun u hu => by simp at hu; subst hu; rfl) hroom (by rw [hz1]; simp; omega)
      rw [hr] at hr2
      cases hr2
      obtain ⟨a5, c5, e5, hoi5⟩ := ho2.slice
      injection e5 with e6 e7 e8
      subst e6
      intro k hk
      obtain ⟨b6, o6, h6, h7, h8, y, h9, h10⟩ := hoi5.ri k (by simp; omega)
      have hb6 : b6 = g := by have := congrArg (Option.map Addr.block) h6; simpa using this.symm
      exact ⟨b6, o6, h6, h7, by omega, y, by rw [List.getElem?_append_left hk] at h9; exact h9, h10⟩
    · have holds : ∀ j u, (ints l)[j]? = some u → (w.alloc (.cells #[.int .i64 x] 3)).cell? ((⟨g, 0, none⟩ : Addr).add j) = some u := World.ownsRow.cells hownA (g := g) rfl
      have hr2 := run_append_grow (P := Tryz.prog) (w.alloc (.cells #[.int .i64 x] 3)) 45 ty 3 i0 (.int .i64 0) undI hi hz0 ⟨g, 0, none⟩ l.length c (ints l) (by rw [ints_len, hz1, Nat.mul_one]) holds ⟨w.heap.size, 0, none⟩ 1 1 [.int .i64 x] (by rw [hz1]; rfl) (cell_one_new _ _ _) (by omega) (by omega) (growslice_fits (by omega) (by rw [hz2]; omega))
      rw [hr] at hr2
      cases hr2
      refine hoiA.same fun k _ h => ?_
      exact Below.heap_alloc (w.alloc (.cells #[.int .i64 x] 3)).drew _ k (by simp; omega)

/-- a suite that was drawn -/
def SP (N : Nat) (mm : List (List Int)) : Prop := mm.length ≤ 21 ∧ ∀ r ∈ mm, LP N r
def SQ (N : Nat) (mm : List (List Int)) : Prop := mm.length ≤ 24 ∧ ∀ r ∈ mm, LP N r
def Dls (w : World) (b K B N : Nat) (e : Ending) (w' : World) : Prop := ∃ (a : Option Addr) (c : Nat) (mm : List (List Int)), e = .returned (.slice a mm.length c) ∧ OwnX w' B (.slice a mm.length c) mm ∧ SP N mm ∧ Rdr w' b K ∧ UpB b B w w'
theorem RI.own {w : World} {lo hi B c : Nat} {a : Option Addr} {m : List Int} (h : RI w lo hi a m) (H : ∀ g, Value.ownBlock (.slice a m.length c) = some g → g < B) : RI w lo B a m := by
  intro k hk
  obtain ⟨b, o, h1, h2, h3, h4⟩ := h k hk
  subst h1
  exact ⟨b, o, rfl, h2, H b rfl, h4⟩
theorem SP.nil (N : Nat) : SP N [] := ⟨by simp, by simp⟩

/- Walks: suites that are drawn. -/
open Go.RowKit

theorem LP.okT {N : Nat} {m r : List Int} (hm : okM m = true) (hl : m.length ≤ N) (h : okT m r = true) : LP N r := by
  have h1 := okW_len h
  refine ⟨by omega, fun x hx => ?_⟩
  obtain ⟨k, hk⟩ := List.getElem?_of_mem hx
  obtain ⟨y, hy⟩ := at_of_lt (show k < m.length by have := lt_of_at hk; omega)
  have h2 := okW_at h hk hy
  have h3 := okM_at hm hy
  omega
theorem SP.snoc {N : Nat} {mm : List (List Int)} {r : List Int} (h : ∀ r ∈ mm, LP N r) (hr : LP N r) : ∀ q ∈ mm ++ [r], LP N q := fun q hq => by
  rcases List.mem_append.1 hq with hq | hq
  · exact h q hq
  · simp at hq; subst hq; exact hr

/-- append of nothing from the nil slice -/
theorem run_app_none {w : World} (ty : TypeId) (B : Nat) (v : Value) (l : List Int) (c : Nat) (hown : OwnL w B v l) : (Builtin.append_ #[45, 45] ty #[v, .slice none 0 c]).run Tryz.prog w = .ok v w := by
  obtain ⟨i0, hi, hz0, hz1, hz2⟩ := info_parts infoInt
  rcases hown.2 with ⟨rfl, h0⟩ | ⟨g, cap, cur, rfl, hb, hg, hn, hm, hs, ht⟩
  · simp [Builtin.append_, run_underlying undI, sizeOf, typeInfo, hi, Builtin.lenOf, Builtin.firstCells]
  · simp [Builtin.append_, run_underlying undI, sizeOf, typeInfo, hi, Builtin.lenOf, Builtin.firstCells, storeCells, Result.andThen, hn]
/-- append of a list, wherever it lies -/
theorem wpList_appA {wr : World} {ops : Array Oper} {rest : List Oper} {o : Oper} {a : Act} {Q : Exit → Act → World → Prop} (hgd : o.guard = none) (s t : Operand)
    (ho : o.op = .call { callee := .builtin .append, args := #[s, t], argTypes := #[45, 45] }) (B : Nat) (v : Value) (l : List Int) (hs : a.eval s = v) (hown : OwnL wr B v l) (k : List Int) (lo hi c : Nat) (a' : Option Addr)
    (hx : a.eval t = .slice a' k.length c) (hk : RI wr lo hi a' k) (hl : l.length ≤ 1099511627776) (hkl : k.length ≤ 1099511627776) (hB : B ≤ wr.heap.size)
    (h : ∀ v' w', OwnL w' B v' (l ++ k) → Below B wr w' → wpList Tryz.prog ops Q rest (a.put o.dst v') w') : wpList Tryz.prog ops Q (o :: rest) a wr := by
  cases a' with
  | some ad => exact wpList_appS hgd s t ho B v l hs hown k lo hi c ad hx hk hl hkl hB h
  | none =>
    have hk0 : k = [] := by
      cases k with
      | nil => rfl
      | cons x k => obtain ⟨b, o, e, _⟩ := hk 0 (by simp); cases e
    subst hk0
    have hr := run_app_none o.type B v l c hown
    refine Lib.wpList_append_run _ hgd s t 45 45 ho v (.slice none 0 c) hs hx v wr hr (h v wr (by simpa using hown) (Below.refl _ _))

theorem minTwo (x : Int) (wx : World) : (Builtin.min_ #[3, 3] 3 #[.int .i64 2, .int .i64 x]).run Tryz.prog wx = .ok (.int .i64 (min 2 x)) wx := by
  rw [run_min_int2]
  congr 2
  split <;> omega

set_option maxRecDepth 100000 in
set_option maxHeartbeats 8000000 in
theorem s_aSuite {b K N lo hi c : Nat} {a : Option Addr} {m : List Int} {w : World} (hr : Rdr w b K) (hm : RI w lo hi a m) (hhi : hi ≤ w.heap.size) (hlo : b < lo) (hL : LP N m) (hN : N ≤ 20) (hK : K ≤ 500000) :
    Calls Tryz.prog 23 #[.pointer (some ⟨b, 0, none⟩), .slice a m.length c] w (Dls w b (K + 400) w.heap.size N) := by
  have hlt := hr.lt
  have hl1 := hL.1
  have HL := Lib.hid hL; clear hL
  obtain ⟨W1, hW1⟩ : ∃ W, w.alloc (.cells #[] 45) = W := ⟨_, rfl⟩
  have hb1 : Below w.heap.size w W1 := by rw [← hW1]; exact (Below.refl w.heap.size w).alloc (Nat.le_refl _) _
  have hs1 : w.heap.size + 1 ≤ W1.heap.size := by rw [← hW1]; simp
  have ho1 : OwnX W1 w.heap.size (.slice (some ⟨w.heap.size, 0, none⟩) 0 0) [] := by rw [← hW1]; exact OwnX.made w w.heap.size (Nat.le_refl _)
  have hb2 := (Below.refl W1.heap.size W1).alloc (Nat.le_refl _) (.cells #[.int .i64 4, .int .i64 3, .int .i64 6, .int .i64 2, .int .i64 1, .int .i64 0, .int .i64 9] 3)
  go_enter Tryz.func23, Tryz.ntmps23
  go_wp2_with fail
  refine (s_one ((hr.below hb1 hlt).below hb2 (by omega)) (by omega) (litW W1 _ [4, 3, 6, 2, 1, 0, 9] rfl) (by simp) (by simp) (.inr (by omega)) (by simp)).mono ?_
  rintro e w2 ⟨n, rfl, hn, hr2, hu2⟩
  have hn5 : 0 ≤ n ∧ n ≤ 9 := by simp at hn; omega
  have ho2 := (ho1.below hb2).upd hu2 hlt
  have hU2 : UpB b w.heap.size w w2 := (((UpB.refl b w.heap.size w).below hb1 (Nat.le_refl _)).below hb2 (by omega)).upd hu2
  have hs2 := hU2.size
  clear hr hb1 hb2 ho1 hu2 hn hs1
  go_wp2
  go_loopw [5] (fun v wr => ∃ (a : Option Addr) (c : Nat) (l : List (List Int)), v = .slice a l.length c ∧ OwnX wr w.heap.size (.slice a l.length c) l ∧ l.length ≤ 9 ∧ Hid (∀ r ∈ l, LP N r) ∧ Rdr wr b (K + 1 + l.length * 22) ∧ UpB b w.heap.size w wr) (fun v _ => n.toNat - lenV v)
  case atStart => exact ⟨_, _, [], rfl, ho2, by simp, by simp [Hid], by simpa using hr2, hU2⟩
  case round =>
    clear ho2 hr2 hU2
    obtain ⟨al, cl, l, rfl, ho, hl9, hLl, hr, hU⟩ := hrel
    have hlw := hr.lt
    have hszr := hU.size
    clear hW1
    by_cases hlt2 : (l.length : Int) < n
    · by_cases hnp : (0 : Int) < (l.length : Int)
      case neg =>
        skip
        have hmq := hm.upB hU hhi hhi hlo
        have hszq := hU.size
        go_wp2_with fail
        refine (s_aTest hr hmq (by omega) hlo HL.out (by omega)).mono ?_
        rintro e w6 ⟨a6, c6, r, rfl, ho6, hl6, hr6, hU6⟩
        have HL6 := Lib.hid hl6.2
        have hs6 := hU6.size
        have hX6 := ho.upB hU6 hlt
        have hoff : ∀ g, (Value.slice al l.length cl).ownBlock = some g → g < wr.heap.size := fun g hg => (ho.lt g hg).2
        obtain ⟨a7, c7, e7, hoi⟩ := ho6.slice
        cases e7
        have hri := hoi.ri
        have hcp := hoi.cap
        have HOF := Lib.hid hoff
        have hU6l := hU6.less (show w.heap.size ≤ wr.heap.size by omega)
        clear ho6 hl6 hoff ho hU6 hoi
        go_wp2_with (first
          | (at_builtin; refine wpList_appX rfl (.tmp 33) (.tmp 37) rfl w.heap.size wr.heap.size w6.heap.size _ l rfl hX6 (by omega) r a6 r.length c6 rfl hri hcp (by omega) (Nat.le_refl _) HOF.out w6.heap.size rfl rfl (by omega) ?_; intro v8 w8 hown8 hb8 _; obtain ⟨a8, c8, hv8, _⟩ := hown8.riic; subst hv8)
          | go_in)
        have hr8 := hr6.below hb8 hlt
        have hU8 := (hU.trans hU6l).below hb8 (Nat.le_refl _)
        have HL8 := Lib.hid (SP.snoc hLl.out HL6.out)
        clear hX6 hri hr6 hU6l hU hb8
        go_roundw
        case rel => exact ⟨a8, c8, l ++ [r], by simp, hown8, by simp; omega, HL8, hr8.mono (by simp; omega), hU8⟩
        case measure => simp [lenV]; omega
      · skip
        go_wp2_with fail
        refine (s_pick hr (by omega) (by omega) (by omega)).mono ?_
        rintro e wq ⟨v, rfl, hv, hrq, huq⟩
        have hoq := ho.upd huq hlt
        have hUq := hU.upd huq
        have hszq0 := hUq.size
        have hsq := huq.size
        clear ho hr hU huq
        by_cases e0 : v = 0
        · subst e0
          obtain ⟨a3, c3, e3, hX⟩ := hoq.riic
          cases e3
          obtain ⟨b5, o5, a5, c5, r, ha5, _, hb5, hc5, hr5, hx5, _⟩ := hX.rii.atc (show 0 < l.length by omega)
          rw [Nat.add_zero] at hc5
          have hidx0 : ∀ wx : World, (Instr.indexAt 49 (.slice al l.length cl) (.int .i64 0)).run Tryz.prog wx = .ok (.pointer (some ⟨b5, o5, none⟩)) wx := fun wx => idxII ha5 (show 0 < l.length by omega) cl wx
          have HL6 := Lib.hid (hLl.out r (List.mem_of_getElem? hx5.out))
          have hrl := HL6.out.1
          have hbA := (Below.refl wq.heap.size wq).alloc (Nat.le_refl _) (.cells #[] 3)
          have hcA : (wq.alloc (.cells #[] 3)).cell? ⟨b5, o5, none⟩ = some (.slice a5 r.length c5) := (hbA.cell (p := ⟨b5, o5, none⟩) hb5).trans hc5
          have hrA := hr5.below hbA (Nat.le_refl _)
          have hstr := OwnL.made wq wq.heap.size (Nat.le_refl _)
          have HOF : Hid (∀ g, (Value.slice al l.length cl).ownBlock = some g → g < wq.heap.size) := fun g hg => (hoq.lt g hg).2
          clear hX ha5 hbA hc5 hr5
          go_wp2_with (first
            | (at_builtin; refine wpList_appA rfl (.tmp 26) (.tmp 29) rfl wq.heap.size _ [] rfl hstr r _ _ c5 a5 rfl hrA (by simp) (by omega) (by simp) ?_; intro v6 w6 hown6 hb6; have hb06 := chain1 hb6; have hs6 := hb06.size; simp only [List.nil_append] at hown6; obtain ⟨a6, c6, hv6, hoi⟩ := hown6.slice; subst hv6; have hri := hoi.ri; have hcp := hoi.cap; have hX6 := hoq.below hb06; clear hown6 hb6 hoi hstr hrA hcA)
            | (at_builtin; refine wpList_appX rfl (.tmp 25) (.tmp 31) rfl w.heap.size wq.heap.size w6.heap.size _ l rfl hX6 (by omega) r a6 r.length c6 rfl hri hcp (by omega) (Nat.le_refl _) HOF.out w6.heap.size rfl rfl (by omega) ?_; intro v8 w8 hown8 hb8 _; obtain ⟨a8, c8, hv8, _⟩ := hown8.riic; subst hv8)
            | go_in)
          have hr8 := (hrq.below hb06 hrq.lt).below hb8 hlt
          have hU8 := (hUq.below hb06 (by omega)).below hb8 (Nat.le_refl _)
          have HL8 := Lib.hid (SP.snoc hLl.out HL6.out)
          clear hX6 hri hrq hUq hb8 hb06 hoq
          go_roundw
          case rel => exact ⟨a8, c8, l ++ [r], by simp, hown8, by simp; omega, HL8, hr8.mono (by simp; omega), hU8⟩
          case measure => simp [lenV]; omega
        · have hv0 := hv.1
          have hvne : (v == 0) = false := by rw [beq_eq_false_iff_ne]; exact e0
          have ho := hoq
          have hU := hUq
          have hr := hrq
          clear hoq hUq hrq hv
          have hmq := hm.upB hU hhi hhi hlo
          have hszq := hU.size
          go_wp2_with fail
          refine (s_aTest hr hmq (by omega) hlo HL.out (by omega)).mono ?_
          rintro e w6 ⟨a6, c6, r, rfl, ho6, hl6, hr6, hU6⟩
          have HL6 := Lib.hid hl6.2
          have hs6 := hU6.size
          have hX6 := ho.upB hU6 hlt
          have hoff : ∀ g, (Value.slice al l.length cl).ownBlock = some g → g < wq.heap.size := fun g hg => (ho.lt g hg).2
          obtain ⟨a7, c7, e7, hoi⟩ := ho6.slice
          cases e7
          have hri := hoi.ri
          have hcp := hoi.cap
          have HOF := Lib.hid hoff
          have hU6l := hU6.less (show w.heap.size ≤ wq.heap.size by omega)
          clear ho6 hl6 hoff ho hU6 hoi
          go_wp2_with (first
            | (at_builtin; refine wpList_appX rfl (.tmp 33) (.tmp 37) rfl w.heap.size wq.heap.size w6.heap.size _ l rfl hX6 (by omega) r a6 r.length c6 rfl hri hcp (by omega) (Nat.le_refl _) HOF.out w6.heap.size rfl rfl (by omega) ?_; intro v8 w8 hown8 hb8 _; obtain ⟨a8, c8, hv8, _⟩ := hown8.riic; subst hv8)
            | go_in)
          have hr8 := hr6.below hb8 hlt
          have hU8 := (hU.trans hU6l).below hb8 (Nat.le_refl _)
          have HL8 := Lib.hid (SP.snoc hLl.out HL6.out)
          clear hX6 hri hr6 hU6l hU hb8
          go_roundw
          case rel => exact ⟨a8, c8, l ++ [r], by simp, hown8, by simp; omega, HL8, hr8.mono (by simp; omega), hU8⟩
          case measure => simp [lenV]; omega
    · go_wp2_with fail
      refine (s_pick hr (by omega) (by omega) (by omega)).mono ?_
      rintro e wq ⟨v, rfl, hv, hrq, huq⟩
      have hoq := ho.upd huq hlt
      have hUq := hU.upd huq
      have hszq := hUq.size
      have hv0 := hv.1
      have HSP : Hid (SP N l) := ⟨by omega, hLl.out⟩
      clear ho hr hU huq hv
      by_cases e0 : v = 0
      case neg =>
        have hvne : (v == 0) = false := by rw [beq_eq_false_iff_ne]; exact e0
        go_wp2
        go_ret
        exact ⟨al, cl, l, rfl, hoq, HSP.out, hrq.mono (by omega), hUq⟩
      subst e0
      have hmq := hm.upB hUq hhi hhi hlo
      cases hok : okM m
      · have HOK := Lib.hid hok; clear hok
        go_wp2_with fail
        refine (s_validModel hmq (by omega)).mono ?_
        rintro e w7 ⟨rfl, hd⟩
        rw [HOK.out]
        have ho7 := hoq.below (Dr.below hd _)
        have hr7 := hrq.below (Dr.below hd _) hrq.lt
        have hU7 := hUq.below (Dr.below hd wq.heap.size) (by omega)
        clear hoq hrq hUq
        go_wp2
        go_ret
        exact ⟨al, cl, l, rfl, ho7, HSP.out, hr7.mono (by omega), hU7⟩
      have hm5 := okM_len hok
      have HOK := Lib.hid hok; clear hok
      clear hoq HSP hLl
      go_wp2_with fail
      refine (s_validModel hmq (by omega)).mono ?_
      rintro e w7 ⟨rfl, hd⟩
      rw [HOK.out]
      have hr7 := hrq.below (Dr.below hd _) hrq.lt
      have hU7 := hUq.below (Dr.below hd wq.heap.size) (by omega)
      have hz7 := Dr.le hd
      have hm7 := hmq.dr hd
      have hmin := minTwo (m.length : Int)
      obtain ⟨t, ht⟩ : ∃ t : Int, min 2 (m.length : Int) = t := ⟨_, rfl⟩
      have ht2 : 0 ≤ t ∧ t ≤ m.length := by omega
      rw [ht] at hmin
      clear ht hrq hUq hmq hd
      -- the empty suite, and the empty head
      obtain ⟨W1, hW1⟩ : ∃ W, w7.alloc (.cells #[] 45) = W := ⟨_, rfl⟩
      have hb1 : Below w7.heap.size w7 W1 := by rw [← hW1]; exact (Below.refl w7.heap.size w7).alloc (Nat.le_refl _) _
      have hs1 : w7.heap.size + 1 ≤ W1.heap.size := by rw [← hW1]; simp
      have hbA := (Below.refl W1.heap.size W1).alloc (Nat.le_refl _) (.cells #[] 3)
      have hm8 := (hm7.below hb1 (by omega)).below hbA (by omega)
      go_wp2_with fail
      refine (s_extend HOK.out m.length [] a ⟨W1.heap.size, 0, none⟩ c 0 lo hi 0 0 _ (by simp) hm8 (by simp; omega) (RI.nil _ _ _ _) (by simp)).mono ?_
      rintro e w8 ⟨ad8, c8, rfl, h8, hb8⟩
      have hb18 : Below w7.heap.size w7 w8 := hb1.trans ((hbA.trans (hb8.mono (by simp))).mono (by omega))
      have hs8 := hb18.size
      obtain ⟨all, hall⟩ : ∃ x, extS m [] = x := ⟨_, rfl⟩
      have HNE : Hid (all ≠ []) := by show _ ≠ _; rw [← hall]; exact ext_ne HOK.out
      have HROW : Hid (∀ x ∈ all, x.length = m.length) := by rw [← hall]; exact ext_row
      have HLPA : Hid (∀ x ∈ all, LP N x) := by rw [← hall]; exact fun x hx => LP.okT HOK.out hl1 ((ext_mem HOK.out).1 hx)
      have hlen8 : all.length ≤ 1024 := by rw [← hall]; exact ext_len HOK.out
      rw [hall] at h8
      have h8r : RII w8 w7.heap.size w8.heap.size (some ad8) all := h8.rii.wide (by simp; omega) (Nat.le_refl _)
      rw [hall]
      have hbB := (Below.refl w8.heap.size w8).alloc (Nat.le_refl _) (.cells #[] 3)
      have hm9 := (hm7.below hb18 (by omega)).below hbB (by omega)
      clear hb1 hbA hm8 h8 hb8 hall hW1
      go_wp2_with fail
      refine (s_patterns HOK.out m.length [] a ⟨w8.heap.size, 0, none⟩ c 0 lo hi 0 0 _ t (by simp) hm9 (by simp; omega) (RI.nil _ _ _ _) (by simp) (by omega) (by omega)).mono ?_
      rintro e w9 ⟨ad9, c9, rfl, h9, hb9⟩
      obtain ⟨ps, hps⟩ : ∃ x, patS m [] t = x := ⟨_, rfl⟩
      have HPR : Hid (∀ p ∈ ps, p.length ≤ m.length) := by rw [← hps]; exact fun p hp => Nat.le_of_eq (patS_row p hp)
      have hlen9 : ps.length ≤ 1024 := by rw [← hps]; exact patS_len HOK.out t
      rw [hps] at h9
      rw [hps]
      have hb19 : Below w8.heap.size w8 w9 := hbB.trans (hb9.mono (by simp))
      have hs9 := hb19.size
      have h8s := h8r.below hb19 (Nat.le_refl _)
      have h9r : RII w9 w8.heap.size w9.heap.size (some ad9) ps := h9.rii.wide (by simp) (Nat.le_refl _)
      have hb79 := hb18.trans (hb19.mono hs8)
      clear hbB hm9 h9 hb9 hps h8r hb18 hb19
      go_wp2_with fail
      refine (s_greedy (s := []) (n := m.length) (RII.nil w9 0 0 _) (by omega) (by simp) (by simp) h8s (by omega) h9r (Nat.le_refl _) HNE.out (by omega) (by omega) HROW.out HPR.out (by omega) (by omega)).mono ?_
      rintro e w10 ⟨v10, rfl, ho10, hn10, hb10⟩
      obtain ⟨mm, hmm⟩ : ∃ x, grS all (21 - ([] : List (List Int)).length) [] ps = x := ⟨_, rfl⟩
      have HMM : Hid (SP N mm) := by
        rw [← hmm]
        refine ⟨?_, grS_rows (P := fun x => LP N x) HNE.out HLPA.out _ _ _ (by simp)⟩
        have := (grS_len all (21 - ([] : List (List Int)).length) [] ps).2
        simp at this ⊢
        omega
      rw [hmm] at ho10
      have hX10 := (OwnX.ofLL ho10).base (show w.heap.size ≤ w9.heap.size by omega)
      obtain ⟨a10, c10, hv10, _⟩ := hX10.riic
      subst hv10
      have hb710 := hb79.trans (hb10.mono (by omega))
      have hr10 := hr7.below hb710 hr7.lt
      have hU10 := hU7.below hb710 (by omega)
      have hs10 := hU10.size
      have hml := HMM.out.1
      clear hmm ho10 hn10 hb10 hb79 hr7 hU7 h8s h9r hb710 hmin
      by_cases hnp : (0 : Int) < (mm.length : Int)
      case neg =>
        go_wp2
        go_ret
        exact ⟨a10, c10, mm, rfl, hX10, HMM.out, hr10.mono (by omega), hU10⟩
      go_wp2_with fail
      refine (s_pick hr10 (by omega) (by omega) (by omega)).mono ?_
      rintro e w11 ⟨v, rfl, hv, hr11, hu11⟩
      have hX11 := hX10.upd hu11 hlt
      have hU11 := hU10.upd hu11
      have hs11 := hU11.size
      have hv0 := hv.1
      clear hX10 hr10 hU10 hu11 hv
      by_cases e0 : v = 0
      case neg =>
        have hvne : (v == 0) = false := by rw [beq_eq_false_iff_ne]; exact e0
        go_wp2
        go_ret
        exact ⟨a10, c10, mm, rfl, hX11, HMM.out, hr11.mono (by omega), hU11⟩
      subst e0
      go_wp2_with fail
      refine (s_pick hr11 (by omega) (by omega) (by omega)).mono ?_
      rintro e w12 ⟨v, rfl, hv, hr12, hu12⟩
      obtain ⟨k, rfl⟩ := Int.eq_ofNat_of_zero_le hv.1
      have hk := hv.2 (by omega)
      have hkl : k < mm.length := by omega
      have hX12 := hX11.upd hu12 hlt
      have hU12 := hU11.upd hu12
      have hs12 := hU12.size
      clear hX11 hr11 hU11 hu12 hv
      obtain ⟨a13, c13, e13, hR⟩ := hX12.riic
      cases e13
      obtain ⟨b5, o5, a5, c5, r5, ha5, _, hb5, _⟩ := hR.rii.at hkl
      subst ha5
      have hcap := hR.cap
      have hto := sliceToII (b := b5) (o := o5) (n := mm.length) (c := c10) (k := k) (z := (k : Int)) rfl (by omega)
      obtain ⟨o', ho', hfrom⟩ := sliceFromII (b := b5) (o := o5) (n := mm.length) (c := c10) (k := k + 1) (z := IntKind.i64.wrap ((k : Int) + 1)) (by rw [IntWalk.i64_in _ (by omega)]; omega) (by omega) hcap
      have hst := (OwnRR.made w12 w.heap.size w.heap.size w12.heap.size (by omega) (.inr (Nat.le_refl _))).drew
      have hbA := (Below.refl _ w12).alloc (Nat.le_refl w12.heap.size) (.cells #[] 45)
      have hs1' := (hR.rii.below hbA (Nat.le_refl _)).drew
      have HO := Lib.hid ho'
      have HTL : Hid (k = (mm.take k).length) := by show _ = _; simp; omega
      have HDL : Hid (mm.length - (k + 1) = (mm.drop (k + 1)).length) := by show _ = _; simp
      have hwB : w.heap.size ≤ (w12.alloc (.cells #[] 45)).drew.heap.size := by simp; omega
      have hwh : w12.heap.size ≤ (w12.alloc (.cells #[] 45)).drew.heap.size := by simp
      have hl0 : ([] : List (List Int)).length ≤ 1099511627776 := by simp
      have hl1' : (mm.take k).length ≤ 1099511627776 := by simp; omega
      have hl2 : (mm.drop (k + 1)).length ≤ 1099511627776 := by simp; omega
      have HSPL : Hid (SP N (mm.take k ++ mm.drop (k + 1))) := by
        refine ⟨by simp; omega, fun r hr => ?_⟩
        rcases List.mem_append.1 hr with hr | hr
        · exact HMM.out.2 r (List.mem_of_mem_take hr)
        · exact HMM.out.2 r (List.mem_of_mem_drop hr)
      clear ho' hR hX12
      go_wp2_with fail
      go_region_law ((first
        | (refine step_appRN (by rfl) _ _ (by rfl) w.heap.size w.heap.size w12.heap.size _ [] (mm.take k) (by rfl) hst hwB hwh ⟨b5, o5, none⟩ _ _ HTL.out (by rfl) (hs1'.take k) hl0 hl1' ?_; intro v1 w13 hown1 hk1 _; rw [List.nil_append] at hown1; have hs2' := hs1'.kp hk1 hwh; have hk1s := Nat.le_trans hwB hk1.size; have hk1h := Nat.le_trans hwh hk1.size; clear hst)
        | (refine step_appRN (by rfl) _ _ (by rfl) w.heap.size w.heap.size w12.heap.size _ (mm.take k) (mm.drop (k + 1)) (by rfl) hown1 hk1s hk1h ⟨b5, o', none⟩ _ _ HDL.out (by rfl) (hs2'.drop HO.out) hl1' hl2 ?_; intro v2 w14 hown2 hk2 _)))
      have hw2 := Nat.le_trans hk1h hk2.size
      have hX14 := OwnX.ofRR hown2 (Nat.le_refl _) hw2
      have hKb : Kp w12.heap.size w.heap.size w12.heap.size w12 w14 := ⟨(hk1.trans hk2).os, (hk1.trans hk2).tape, (hk1.trans hk2).output, by have := (hk1.trans hk2).size; simp at this ⊢; omega, fun j hj hjo => by
        have h1 := (hk1.trans hk2).block j (by simp; omega) (by by_cases hjw : j < w.heap.size; exact .inl hjw; exact .inr ⟨by omega, by omega⟩)
        exact h1.trans (hbA.block j (by omega))⟩
      have hb14 := hKb.below (Nat.le_refl _)
      have hr14 := hr12.below hb14 hr12.lt
      have hU14 := hU12.below hb14 (by omega)
      obtain ⟨m2, hm2⟩ : ∃ x, mm.take k ++ mm.drop (k + 1) = x := ⟨_, rfl⟩
      have HS2 : Hid (SP N m2) := by show SP _ _; rw [← hm2]; exact HSPL.out
      rw [hm2] at hX14
      clear hm2
      obtain ⟨a14, c14, hv14, _⟩ := hX14.riic
      subst hv14
      clear hown1 hown2 hk1 hk2 hKb hb14 hr12 hU12 hs1' hs2'
      go_wp2
      go_ret
      exact ⟨_, _, m2, rfl, hX14, HS2.out, hr14.mono (by omega), hU14⟩

theorem run_app1kL {w : World} {ops : Array Oper} {rest : List Oper} {o : Oper} {a0 : Act} {Q : Exit → Act → World → Prop} (hgd : o.guard = none) (s t : Operand)
    (ho : o.op = .call { callee := .builtin .append, args := #[s, t], argTypes := #[45, 45] }) (B : Nat) (a : Option Addr) (n c : Nat) (l : List Int) (hs : a0.eval s = .slice a n c) (hown : OwnL w B (.slice a n c) l) (x : Int) (nw : Nat) (hnw : nw = w.heap.size)
    (hx : a0.eval t = .slice (some ⟨nw, 0, none⟩) 1 1) (hl : l.length ≤ 1099511627776) (hB : B ≤ w.heap.size)
    (h : ∀ v' w', OwnL w' B v' (l ++ [x]) → Below B w w' → RI w' B w.heap.size a l → (∀ g, g < w.heap.size → Value.ownBlock (.slice a n c) ≠ some g → w'.heap[g]? = w.heap[g]?) → wpList Tryz.prog ops Q rest (a0.put o.dst v') w') : wpList Tryz.prog ops Q (o :: rest) a0 (w.alloc (.cells #[.int .i64 x] 3)) := by
  obtain ⟨v', w', hr, h1, h2, h3, h4⟩ := run_app1k o.type B a n c l hown x nw hnw hl hB
  exact Lib.wpList_append_run _ hgd s t 45 45 ho _ _ hs hx v' w' hr (h v' w' h1 h2 h3 h4)

/- Walks: what the laws on suites draw. -/
open Go.RowKit

/-- a suite that a law has drawn -/
structure GotS (w w' : World) (N : Nat) (a : Option Addr) (c : Nat) (s : List (List Int)) : Prop where
  ric : RIIc w' w.heap.size w'.heap.size a c s
  sq : SQ N s
/-- a list, a suite and a number that a law has drawn -/
def DrS (w : World) (e : Ending) (w' : World) : Prop := ∃ (a1 : Option Addr) (c1 : Nat) (m : List Int) (a2 : Option Addr) (c2 : Nat) (s : List (List Int)) (t : Int), e = .returned (.tuple #[.slice a1 m.length c1, .slice a2 s.length c2, .int .i64 t]) ∧ (Got w w' 10 a1 c1 m ∧ GotS w w' 12 a2 c2 s ∧ -4 ≤ t ∧ t ≤ 6) ∧ Below w.heap.size w w'

end Go.Proofs.YtpioldgpfpmjiaaGreatDoor
