/- Walks: orders of events by the program: what an order shows, and what it hides. -/
import Derived.Test.YtkboggohkhjciaaUa
import Derived.Test.YtkboggohkhjciaaOwnL
import Derived.Test.YtkboggohkhjciaaTg
namespace Go.Proofs.Ytkboggohkhjciaa
open Go Go.RowKit

set_option maxRecDepth 100000 in
set_option maxHeartbeats 1000000 in
theorem i_ValidRuns {n : Int} {m : List (List Int)} {a : Option Addr} {c lo hi' : Nat} {w : World} (_h0 : -9223372036854775808 ≤ n) (_h1 : n ≤ 9223372036854775807) (hm : RII w lo hi' a m) (hl : m.length ≤ 9223372036854775807) (hg : ∀ r ∈ m, r.length ≤ 9223372036854775807) (hB : hi' ≤ w.heap.size) :
    Calls Try.prog 12 #[.int .i64 n, .slice a m.length c] w (NewW w (.bool (okRs n m))) := by
  have HG := Lib.hid hg; clear hg
  by_cases hn1 : n < 1
  · have hd : decide (n < 1) = true := decide_eq_true hn1
    go_enter Try.func12, Try.ntmps12
    go_wp2
    go_ret
    exact ⟨by rw [okRs_n (.inl hn1)]; rfl, Below.refl _ _⟩
  have hd1 : decide (n < 1) = false := decide_eq_false hn1
  by_cases hn5 : 5 < n
  · have hd : decide (5 < n) = true := decide_eq_true hn5
    go_enter Try.func12, Try.ntmps12
    go_wp2
    go_ret
    exact ⟨by rw [okRs_n (.inr hn5)]; rfl, Below.refl _ _⟩
  have hd5 : decide (5 < n) = false := decide_eq_false hn5
  by_cases hl20 : 20 < m.length
  · have hd : decide (20 < m.length) = true := decide_eq_true hl20
    have hd' : decide ((20 : Int) < (m.length : Int)) = true := decide_eq_true (by omega)
    go_enter Try.func12, Try.ntmps12
    go_wp2
    go_ret
    exact ⟨by rw [okRs_l hl20]; rfl, Below.refl _ _⟩
  have hd20 : decide (20 < m.length) = false := decide_eq_false hl20
  have hd20' : decide ((20 : Int) < (m.length : Int)) = false := decide_eq_false (by omega)
  go_enter Try.func12, Try.ntmps12
  go_wp2
  clear hd1 hd5 hd20 hd20'
  go_loopw [20] (fun i wr => ∃ k : Nat, k ≤ m.length ∧ i = .int .i64 k ∧ Below w.heap.size w wr ∧ Hid ((m.take k).all (okU n (n - 1)) = true)) (fun i _ => m.length - (intOf i).toNat)
  case atStart => exact ⟨0, Nat.zero_le _, rfl, Below.refl _ _, by simp [Hid]⟩
  case round =>
    obtain ⟨k, hk, rfl, hd, hA⟩ := hrel
    have hz := hd.size
    by_cases hlt : k < m.length
    · obtain ⟨b, o, a1, c1, r, ha, _, hbh, hcell, hr, hx⟩ := (hm.below hd hB).at hlt
      have hidx := idxII ha hlt c
      have hrl := HG.out r (List.mem_of_getElem? hx.out)
      have HX := Lib.hid hx.out
      clear ha hm hx
      by_cases hlen : (r.length : Int) = n
      · have hne : ((r.length : Int) != n) = false := by rw [hlen]; exact bne_self_eq_false n
        have HLEN := Lib.hid hlen
        clear hlen
        cases hb : okE (n - 1) r
        · have HB := Lib.hid hb; clear hb
          go_wp2_with fail
          refine (i_allow (by omega) (by omega) hr (by omega) hrl).mono ?_
          rintro e w' ⟨rfl, b1⟩
          rw [HB.out]
          go_wp2
          go_ret
          exact ⟨by rw [okRs_fails HX.out (okU_no HB.out)]; rfl, hd.trans (b1.mono (by omega))⟩
        · have HB := Lib.hid hb; clear hb
          go_wp2_with fail
          refine (i_allow (by omega) (by omega) hr (by omega) hrl).mono ?_
          rintro e w' ⟨rfl, b1⟩
          rw [HB.out]
          have hd2 := hd.trans (b1.mono (by omega))
          go_wp2
          go_roundw
          case rel => exact ⟨k + 1, by omega, by go_num, hd2, all_snoc HX.out hA.out (okU_mk HLEN.out HB.out)⟩
          case measure => simp [intOf]; omega
      · have hne : ((r.length : Int) != n) = true := by rw [bne_iff_ne]; exact hlen
        have HLEN := Lib.hid hlen
        clear hlen
        go_wp2
        go_ret
        exact ⟨by rw [okRs_fails HX.out (okU_no_len HLEN.out)]; rfl, hd⟩
    · have HE := Lib.hid (okRs_end (n := n) (by omega) (by omega) (by omega) (show m.length ≤ k by omega) hA.out)
      go_wp2
      go_ret
      exact ⟨by rw [HE.out]; rfl, hd⟩

/-! ### an order: how many events there are, and their places -/
def ordV (n : Int) (T : Nat → Int) : Array Value := #[.int .i64 n, .int .i64 (T 0), .int .i64 (T 1), .int .i64 (T 2), .int .i64 (T 3), .int .i64 (T 4)]
theorem ordV_n {w : World} {b t : Nat} {n : Int} {T : Nat → Int} (h : w.heap[b]? = some (.cells (ordV n T) t (0, 0))) : w.cell? ⟨b, 0, none⟩ = some (.int .i64 n) := by
  rw [cell_of_row w b 0 _ t (0, 0) h]; rfl
theorem ordV_cell {w : World} {b t : Nat} {n : Int} {T : Nat → Int} (h : w.heap[b]? = some (.cells (ordV n T) t (0, 0))) {k : Nat} (hk : k < 5) : w.cell? ⟨b, 1 + k, none⟩ = some (.int .i64 (T k)) := by
  rw [cell_of_row w b (1 + k) _ t (0, 0) h]
  match k, hk with
  | 0, _ => rfl
  | 1, _ => rfl
  | 2, _ => rfl
  | 3, _ => rfl
  | 4, _ => rfl
theorem ordV_cells {w : World} {b t : Nat} {n : Int} {T : Nat → Int} (h : w.heap[b]? = some (.cells (ordV n T) t (0, 0))) :
    w.cell? ⟨b, 0, none⟩ = some (.int .i64 n) ∧ w.cell? ⟨b, 1, none⟩ = some (.int .i64 (T 0)) ∧ w.cell? ⟨b, 2, none⟩ = some (.int .i64 (T 1)) ∧ w.cell? ⟨b, 3, none⟩ = some (.int .i64 (T 2)) ∧ w.cell? ⟨b, 4, none⟩ = some (.int .i64 (T 3)) ∧ w.cell? ⟨b, 5, none⟩ = some (.int .i64 (T 4)) :=
  ⟨ordV_n h, ordV_cell h (k := 0) (by omega), ordV_cell h (k := 1) (by omega), ordV_cell h (k := 2) (by omega), ordV_cell h (k := 3) (by omega), ordV_cell h (k := 4) (by omega)⟩
def putI (T : Nat → Int) (e : Nat) (v : Int) (i : Nat) : Int := if i = e then v else T i
theorem ordV_set {w : World} {b t : Nat} {n : Int} {T : Nat → Int} (h : w.heap[b]? = some (.cells (ordV n T) t (0, 0))) {e : Nat} (he : e < 5) (v : Int) : (w.setCell ⟨b, 1 + e, none⟩ (.int .i64 v)).heap[b]? = some (.cells (ordV n (putI T e v)) t (0, 0)) := by
  simp only [World.setCell, Array.getElem?_modify, if_true]
  rw [h]
  match e, he with
  | 0, _ => rfl
  | 1, _ => rfl
  | 2, _ => rfl
  | 3, _ => rfl
  | 4, _ => rfl
theorem undA5 : Try.prog.underlying 58 = some (.array 5 3) := by kernel_rfl
theorem idxAtI (b o : Nat) {k : Nat} (hk : k < 5) (wx : World) :
    (Instr.indexAt 58 (.pointer (some ⟨b, o, none⟩)) (.int .i64 (k : Int))).run Try.prog wx = .ok (.pointer (some ⟨b, o + k, none⟩)) wx := by
  simp [Instr.indexAt, run_underlying undA5, asIntOf, Instr.sureAddr, hk, Addr.add]
theorem plT_put {r : List Int} {k : Nat} {x : Int} (hn : r.Nodup) (hx : r[k]? = some x) (h0 : 0 ≤ x) (n : Int) : ordV n (putI (plT (r.take k)) x.toNat k) = ordV n (plT (r.take (k + 1))) := by
  have h : ∀ i, putI (plT (r.take k)) x.toNat k i = plT (r.take (k + 1)) i := fun i => (plT_step hn hx h0 i).symm
  unfold ordV; simp only [h]
theorem wideOrd : (match Try.prog.underlying 60 with | some (.struct _) => true | _ => false) = true := by kernel_rfl
theorem undOrd : ∃ fs, Try.prog.underlying 60 = some (.struct fs) := by
  have h := wideOrd
  cases hu : Try.prog.underlying 60 with
  | none => rw [hu] at h; cases h
  | some u =>
    rw [hu] at h
    cases u <;> first | exact ⟨_, rfl⟩ | cases h
theorem set6 {w : World} {b t : Nat} {c : Array Value} (hc : c.size = 6) (h : w.heap[b]? = some (.cells c t (0, 0))) (v0 v1 v2 v3 v4 v5 : Value) :
    ((((((w.setCell ⟨b, 0, none⟩ v0).setCell ⟨b, 1, none⟩ v1).setCell ⟨b, 2, none⟩ v2).setCell ⟨b, 3, none⟩ v3).setCell ⟨b, 4, none⟩ v4).setCell ⟨b, 5, none⟩ v5).heap[b]? = some (.cells #[v0, v1, v2, v3, v4, v5] t (0, 0)) := by
  obtain ⟨l⟩ := c
  match l, hc, h with
  | [x0, x1, x2, x3, x4, x5], _, h =>
    simp only [World.setCell, Array.getElem?_modify, if_true]
    rw [h]; rfl
theorem set6b {n : Nat} {w0 w : World} {b : Nat} (hB : Below n w0 w) (hn : n ≤ b) (v0 v1 v2 v3 v4 v5 : Value) :
    Below n w0 ((((((w.setCell ⟨b, 0, none⟩ v0).setCell ⟨b, 1, none⟩ v1).setCell ⟨b, 2, none⟩ v2).setCell ⟨b, 3, none⟩ v3).setCell ⟨b, 4, none⟩ v4).setCell ⟨b, 5, none⟩ v5) :=
  (((((hB.setCell (p := ⟨b, 0, none⟩) hn _).setCell (p := ⟨b, 1, none⟩) hn _).setCell (p := ⟨b, 2, none⟩) hn _).setCell (p := ⟨b, 3, none⟩) hn _).setCell (p := ⟨b, 4, none⟩) hn _).setCell (p := ⟨b, 5, none⟩) hn _
theorem infoOrd : (Try.prog.info? 60).map (·.size) = some 6 := by kernel_rfl

set_option maxRecDepth 100000 in
set_option maxHeartbeats 2000000 in
theorem i_orderOf {n : Int} {r : List Int} {a : Option Addr} {c lo hi : Nat} {w : World} (hrl : (r.length : Int) = n) (hn5 : n ≤ 5) (hok : okE (n - 1) r = true) (hm : RI w lo hi a r) (hB : hi ≤ w.heap.size) :
    Calls Try.prog 50 #[.slice a r.length c] w (NewW w (.agg (ordV n (plT r)))) := by
  have HOK := Lib.hid hok; clear hok
  have e0 : ordV 0 (plT []) = #[.int .i64 0, .int .i64 0, .int .i64 0, .int .i64 0, .int .i64 0, .int .i64 0] := rfl
  have e1 : ordV n (plT (r.take 0)) = #[.int .i64 n, .int .i64 0, .int .i64 0, .int .i64 0, .int .i64 0, .int .i64 0] := by rw [List.take_zero]; rfl
  have h2 := heap_alloc_new w (.cells #[.int .i64 0, .int .i64 0, .int .i64 0, .int .i64 0, .int .i64 0, .int .i64 0] 60)
  have h3 := heap_alloc_new (w.alloc (.cells #[.int .i64 0, .int .i64 0, .int .i64 0, .int .i64 0, .int .i64 0, .int .i64 0] 60)) (.cells #[.int .i64 n, .int .i64 0, .int .i64 0, .int .i64 0, .int .i64 0, .int .i64 0] 60)
  have hb2 := ((Below.refl w.heap.size w).alloc (Nat.le_refl _) (.cells #[.int .i64 0, .int .i64 0, .int .i64 0, .int .i64 0, .int .i64 0, .int .i64 0] 60)).alloc (by simp) (.cells #[.int .i64 n, .int .i64 0, .int .i64 0, .int .i64 0, .int .i64 0, .int .i64 0] 60)
  have h2' := (Below.heap_alloc (w.alloc (.cells #[.int .i64 0, .int .i64 0, .int .i64 0, .int .i64 0, .int .i64 0, .int .i64 0] 60)) (.cells #[.int .i64 n, .int .i64 0, .int .i64 0, .int .i64 0, .int .i64 0, .int .i64 0] 60) w.heap.size (by simp)).trans h2
  simp only [World.size_alloc] at h3
  obtain ⟨W, hW⟩ : ∃ W, (w.alloc (.cells #[.int .i64 0, .int .i64 0, .int .i64 0, .int .i64 0, .int .i64 0, .int .i64 0] 60)).alloc (.cells #[.int .i64 n, .int .i64 0, .int .i64 0, .int .i64 0, .int .i64 0, .int .i64 0] 60) = W := ⟨_, rfl⟩
  have hWs : w.heap.size + 2 ≤ W.heap.size ∧ W.heap.size ≤ w.heap.size + 2 := by rw [← hW]; simp
  rw [hW] at h3 hb2 h2'
  rw [← e1] at h3
  clear h2 e0 e1
  obtain ⟨N, hN⟩ : ∃ N, r.length = N := ⟨_, rfl⟩
  have HN := Lib.hid hN
  rw [hN] at hrl ⊢
  have hNl : N ≤ 5 := by omega
  subst hrl
  clear hN
  have HWE := Lib.hid hW
  clear hW
  go_enter Try.func50, Try.ntmps50
  go_wp2
  rw [HWE.out]
  clear HWE
  go_loopw [11] (fun i wr => ∃ k : Nat, k ≤ N ∧ i = .int .i64 k ∧ wr.heap[w.heap.size + 1]? = some (.cells (ordV N (plT (r.take k))) 60 (0, 0)) ∧ Below (w.heap.size + 1) W wr) (fun i _ => N - (intOf i).toNat)
  case atStart => exact ⟨0, Nat.zero_le _, rfl, h3, Below.refl _ _⟩
  case round =>
    clear h3
    obtain ⟨k, hk, rfl, hrow, hd⟩ := hrel
    have hz := hd.size
    by_cases hlt : k < N
    · obtain ⟨b, o, x, ha, _, hbh, hcell, hx⟩ := (hm.below (hb2.trans (hd.mono (by omega))) hB).at (show k < r.length by have := HN.out; omega)
      have hidx := idxI ha hlt c
      have hxb := okE_mem HOK.out (List.mem_of_getElem? hx.out)
      have hx5 : x.toNat < 5 := by omega
      have hxe : ((x.toNat : Nat) : Int) = x := by omega
      have hix := idxAtI (w.heap.size + 1) 1 hx5
      rw [hxe] at hix
      have HP := Lib.hid (plT_put (okE_nodup HOK.out) hx.out hxb.1 N)
      have hrow2 := ordV_set hrow hx5 k
      rw [HP.out] at hrow2
      have hfr := row_frozen hrow (1 + x.toNat)
      have hct := ordV_cell hrow hx5
      have hd2 : Below (w.heap.size + 1) W (wr.setCell ⟨w.heap.size + 1, 1 + x.toNat, none⟩ (.int .i64 k)) := hd.setCell (p := ⟨w.heap.size + 1, 1 + x.toNat, none⟩) (Nat.le_refl _) _
      have HR2 := Lib.hid hrow2; have HD2 := Lib.hid hd2
      clear ha hx hrow hrow2 hd2 hd hxe
      go_wp2
      go_roundw
      case rel => exact ⟨k + 1, by omega, by go_num, HR2.out, HD2.out⟩
      case measure => simp [intOf]; omega
    · have HKE : Hid (r.take k = r) := List.take_of_length_le (by have := HN.out; omega)
      rw [HKE.out] at hrow
      have h2w := (hd.block w.heap.size (by omega)).trans h2'
      obtain ⟨c0, c1, c2, c3, c4, c5⟩ := ordV_cells hrow
      have f0 := row_frozen h2w 0
      have f1 := row_frozen h2w 1
      have f2 := row_frozen h2w 2
      have f3 := row_frozen h2w 3
      have f4 := row_frozen h2w 4
      have f5 := row_frozen h2w 5
      have q := ordV_cells (n := 0) (T := fun _ => 0) h2w
      obtain ⟨q0, q1, q2, q3, q4, q5⟩ := q
      have H2 := Lib.hid h2w; have HD := Lib.hid hd
      clear hrow h2w h2' hd
      have hW6 := set6 (by rfl) H2.out (.int .i64 (N : Int)) (.int .i64 (plT r 0)) (.int .i64 (plT r 1)) (.int .i64 (plT r 2)) (.int .i64 (plT r 3)) (.int .i64 (plT r 4))
      have hB6 := set6b (n := w.heap.size) (b := w.heap.size) (hb2.trans (HD.out.mono (by omega))) (Nat.le_refl _) (.int .i64 (N : Int)) (.int .i64 (plT r 0)) (.int .i64 (plT r 1)) (.int .i64 (plT r 2)) (.int .i64 (plT r 3)) (.int .i64 (plT r 4))
      have HW6 := Lib.hid hW6; have HB6 := Lib.hid hB6
      clear hW6 hB6
      go_wp2
      obtain ⟨fs, hu⟩ := undOrd
      exact bodyPost_ret (v := .agg (ordV N (plT r))) (results_cell_row Try.results50 _ _ _ _ _ (0, 0) (.struct fs) rfl HW6.out hu rfl infoOrd) rfl ⟨rfl, HB6.out⟩

/-! ### what an order shows -/
theorem i_less {n x y : Int} {T : Nat → Int} {b : Nat} {w : World} (hrow : w.heap[b]? = some (.cells (ordV n T) 60 (0, 0))) (hT : ∀ e, 0 ≤ T e ∧ T e ≤ 5) (hx0 : 0 ≤ x) (hx : x < 5) (hy0 : 0 ≤ y) (hy : y < 5) :
    Calls Try.prog 65 #[.int .i64 x, .int .i64 y, .pointer (some ⟨b, 0, none⟩)] w (RO w (.int .i64 (T x.toNat - T y.toNat))) := by
  have hx5 : x.toNat < 5 := by omega
  have hy5 : y.toNat < 5 := by omega
  have ix := idxAtI b 1 hx5
  have iy := idxAtI b 1 hy5
  rw [show ((x.toNat : Nat) : Int) = x by omega] at ix
  rw [show ((y.toNat : Nat) : Int) = y by omega] at iy
  have cx := ordV_cell hrow hx5
  have cy := ordV_cell hrow hy5
  have bx := hT x.toNat
  have byy := hT y.toNat
  obtain ⟨tx, htx⟩ : ∃ z, T x.toNat = z := ⟨_, rfl⟩
  obtain ⟨ty, hty⟩ : ∃ z, T y.toNat = z := ⟨_, rfl⟩
  rw [htx] at cx bx ⊢
  rw [hty] at cy byy ⊢
  have hwr : IntKind.i64.wrap (tx - ty) = tx - ty := IntWalk.i64_in _ (by omega)
  clear htx hty hrow hT
  go_enter Try.func65, Try.ntmps65
  go_wp2_with fail
  go_quiet (fail)
  go_wp2
  go_ret
  exact RO.mk rfl ⟨_, rfl⟩

set_option maxRecDepth 100000 in
set_option maxHeartbeats 2000000 in
theorem x_sorted {n : Int} {T : Nat → Int} {l : List Int} {b : Nat} {a : Option Addr} {c lo hi : Nat} {w : World} (hrow : w.heap[b]? = some (.cells (ordV n T) 60 (0, 0))) (hT : ∀ e, 0 ≤ T e ∧ T e ≤ 5) (hl5 : ∀ x ∈ l, 0 ≤ x ∧ x < 5) (hm : RI w lo hi a l) (hl : l.length ≤ 9223372036854775807) :
    Calls Try.prog 64 #[.slice a l.length c, .func (.func 65) #[] #[.pointer (some ⟨b, 0, none⟩)]] w (RO w (.bool (ascF (fun e => T e.toNat) l))) := by
  have HL5 := Lib.hid hl5
  have HLES : Hid (∀ (w' : World) (x y : Int), Dr w w' → 0 ≤ x → x < 5 → 0 ≤ y → y < 5 → Calls Try.prog 65 #[.int .i64 x, .int .i64 y, .pointer (some ⟨b, 0, none⟩)] w' (RO w' (.int .i64 (T x.toNat - T y.toNat)))) := fun w' x y hd h1 h2 h3 h4 => by
    obtain ⟨k, rfl⟩ := hd
    exact i_less (w := w.drewN k) hrow hT h1 h2 h3 h4
  clear hl5 hrow hT
  by_cases hl0 : l.length = 0
  · obtain rfl : l = [] := List.eq_nil_of_length_eq_zero hl0
    clear hl0
    go_enter Try.func64, Try.ntmps64
    go_wp2
    go_loopw [5] (fun i wr => i = .int .i64 (-1) ∧ Dr w wr) (fun _ _ => 0)
    case atStart => exact ⟨by go_num, Dr.refl _⟩
    case round =>
      obtain ⟨rfl, hd⟩ := hrel
      go_wp2
      go_ret
      exact hd.boolD rfl
  have hwl : IntKind.i64.wrap ((l.length : Int) - 1) = ((l.length - 1 : Nat) : Int) := by rw [IntWalk.i64_in _ (by omega)]; omega
  go_enter Try.func64, Try.ntmps64
  go_wp2
  go_loopw [5] (fun i wr => ∃ k : Nat, k < l.length ∧ i = .int .i64 k ∧ Dr w wr ∧ Hid (∀ (j : Nat) (x y : Int), k ≤ j → l[j]? = some x → l[j + 1]? = some y → T x.toNat ≤ T y.toNat)) (fun i _ => (intOf i).toNat)
  case atStart => exact ⟨l.length - 1, by omega, by go_num, Dr.refl _, fun j x y h1 h2 h3 => by have := lt_of_at h3; omega⟩
  case round =>
    clear hwl
    obtain ⟨k, hk, rfl, hd, hA⟩ := hrel
    by_cases h0 : k = 0
    · subst h0
      have HE : Hid (ascF (fun e => T e.toNat) l = true) := ascF_iff.2 fun i x y hx hy => hA.out i x y (by omega) hx hy
      go_wp2
      go_ret
      exact hd.boolD HE.out.symm
    · obtain ⟨q, hq⟩ : ∃ q, k = q + 1 := ⟨k - 1, by omega⟩
      have HQ := Lib.hid hq
      have hqk : q < k ∧ k ≤ q + 1 := by omega
      clear hq
      obtain ⟨b1, o1, x, ha1, _, _, hc1, hx⟩ := (hm.dr hd).at hk
      obtain ⟨b2, o2, y, ha2, _, _, hc2, hy⟩ := (hm.dr hd).at (show q < l.length by omega)
      have hi1 := idxI ha1 hk c
      have hi2 := idxI ha2 (show q < l.length by omega) c
      have hxb := HL5.out x (List.mem_of_getElem? hx.out)
      have hyb := HL5.out y (List.mem_of_getElem? hy.out)
      have hpos : decide ((0 : Int) < (k : Int)) = true := decide_eq_true (by omega)
      have hpos2 : decide (0 < k) = true := decide_eq_true (by omega)
      have hwq : IntKind.i64.wrap ((k : Int) - 1) = (q : Int) := by rw [IntWalk.i64_in _ (by omega)]; omega
      have HC : Hid (∀ nn, Calls Try.prog 65 #[.int .i64 x, .int .i64 y, .pointer (some ⟨b, 0, none⟩)] (wr.drewN nn) (RO (wr.drewN nn) (.int .i64 (T x.toNat - T y.toNat)))) := fun nn => HLES.out _ x y (hd.drewN nn) hxb.1 hxb.2 hyb.1 hyb.2
      obtain ⟨D, hD⟩ : ∃ D, T x.toNat - T y.toNat = D := ⟨_, rfl⟩
      rw [hD] at HC
      have HD := Lib.hid hD
      clear ha1 ha2 hm hD
      by_cases hlt : D < 0
      · have hdc : decide (D < 0) = true := decide_eq_true hlt
        have HNO : Hid (ascF (fun e => T e.toNat) l = false) := ascF_fails (T := fun e => T e.toNat) hy.out (by rw [← HQ.out]; exact hx.out) (by have := HD.out; show T x.toNat < T y.toNat; omega)
        clear hlt
        go_wp2_with fail
        go_quiet (exact Calls.quiet_of (HC.out _))
        go_wp2
        go_ret
        exact (hd.drewN _).boolD HNO.out.symm
      · have hdc : decide (D < 0) = false := decide_eq_false hlt
        have HNX : Hid (∀ (j : Nat) (x y : Int), q ≤ j → l[j]? = some x → l[j + 1]? = some y → T x.toNat ≤ T y.toNat) := fun j x' y' h1 h2 h3 => by
          by_cases e : j = q
          · subst e
            have e1 : y = x' := by have := hy.out; rw [h2] at this; simpa using this.symm
            have e2 : x = y' := by have := hx.out; rw [HQ.out, h3] at this; simpa using this.symm
            subst e1; subst e2
            have := HD.out; omega
          · exact hA.out j x' y' (by omega) h2 h3
        clear hlt
        go_wp2_with fail
        go_quiet (exact Calls.quiet_of (HC.out _))
        go_wp2
        go_roundw
        case rel => exact ⟨q, by omega, by go_num, hd.drewN _, HNX⟩
        case measure => simp [intOf]; omega

end Go.Proofs.Ytkboggohkhjciaa
