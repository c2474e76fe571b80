/- Walks: patterns joined, by the model. -/
import Derived.Test.YtehoagbpgahopaaWm
namespace Go.Proofs.Ytehoagbpgahopaa
open Go.RowKit

theorem maxLe {x y : Int} (h : y ≤ x) (wx : World) : (Builtin.max_ #[3, 3] 3 #[.int .i64 x, .int .i64 y]).run Try.prog wx = .ok (.int .i64 x) wx := by
  rw [run_max_int2, if_neg (by omega)]

set_option maxHeartbeats 2000000 in
theorem s_JoinPatterns {m p q : List Int} {a a' a'' : Option Addr} {c c' c'' lo hi lo' hi' lo'' hi'' : Nat} {w : World} (hm : RI w lo hi a m) (hlm : m.length ≤ 9223372036854775807) (hp : RI w lo' hi' a' p) (hlp : p.length ≤ 9223372036854775807) (hq : RI w lo'' hi'' a'' q) (hlq : q.length ≤ 9223372036854775807)
    (hb' : hi' ≤ w.heap.size) (hb'' : hi'' ≤ w.heap.size) :
    Calls Try.prog 55 #[.slice a m.length c, .slice a' p.length c', .slice a'' q.length c''] w (NewIB w (jpL m p q) (jpB m p q)) := by
  cases hok : okM m
  · have HOK := Lib.hid hok; clear hok
    go_enter Try.func55, Try.ntmps55
    go_wp2_with fail
    refine (s_validModel hm hlm).mono ?_
    rintro e w1 ⟨rfl, hd⟩
    rw [HOK.out]
    go_wp2
    go_ret2
    exact NewIB.none (jp_no (.inl HOK.out)) (Dr.below hd _)
  have HOK := Lib.hid hok; clear hok
  cases hop : okP m p
  · have HOP := Lib.hid hop; clear hop
    go_enter Try.func55, Try.ntmps55
    go_wp2_with fail
    refine (s_validModel hm hlm).mono ?_
    rintro e w1 ⟨rfl, hd⟩
    rw [HOK.out]
    go_wp2_with fail
    refine (s_validPattern (hm.dr hd) (hp.dr hd) HOK.out hlp).mono ?_
    rintro e w2 ⟨rfl, hd2⟩
    rw [HOP.out]
    go_wp2
    go_ret2
    exact NewIB.none (jp_no (.inr (.inl HOP.out))) (Dr.below (Dr.trans hd hd2) _)
  have HOP := Lib.hid hop; clear hop
  cases hoq : okP m q
  · have HOQ := Lib.hid hoq; clear hoq
    go_enter Try.func55, Try.ntmps55
    go_wp2_with fail
    refine (s_validModel hm hlm).mono ?_
    rintro e w1 ⟨rfl, hd⟩
    rw [HOK.out]
    go_wp2_with fail
    refine (s_validPattern (hm.dr hd) (hp.dr hd) HOK.out hlp).mono ?_
    rintro e w2 ⟨rfl, hd2⟩
    rw [HOP.out]
    have hd2 : Dr w w2 := Dr.trans hd hd2
    go_wp2_with fail
    refine (s_validPattern (hm.dr hd2) (hq.dr hd2) HOK.out hlq).mono ?_
    rintro e w3 ⟨rfl, hd3⟩
    rw [HOQ.out]
    go_wp2
    go_ret2
    exact NewIB.none (jp_no (.inr (.inr (.inl HOQ.out)))) (Dr.below (Dr.trans hd2 hd3) _)
  have HOQ := Lib.hid hoq; clear hoq
  have h1 := okW_len HOP.out
  have h2 := okW_len HOQ.out
  have h5 := okM_len HOK.out
  have hp5 : p.length ≤ 5 := by omega
  have hpq : p.length ≤ q.length := by omega
  have hqp : q.length ≤ p.length := by omega
  have hmp : p.length ≤ m.length := by omega
  clear h1 h2
  go_enter Try.func55, Try.ntmps55
  go_wp2_with fail
  refine (s_validModel hm hlm).mono ?_
  rintro e w1 ⟨rfl, hd⟩
  rw [HOK.out]
  go_wp2_with fail
  refine (s_validPattern (hm.dr hd) (hp.dr hd) HOK.out hlp).mono ?_
  rintro e w2 ⟨rfl, hd2⟩
  rw [HOP.out]
  have hd2 : Dr w w2 := Dr.trans hd hd2
  go_wp2_with fail
  refine (s_validPattern (hm.dr hd2) (hq.dr hd2) HOK.out hlq).mono ?_
  rintro e w3 ⟨rfl, hd3⟩
  rw [HOQ.out]
  have hd3 : Dr w w3 := Dr.trans hd2 hd3
  have hz3 := Dr.le hd3
  have hp3 := hp.dr hd3
  have hq3 := hq.dr hd3
  have hst := OwnL.made w3 w3.heap.size (Nat.le_refl _)
  clear hm hp hq hd hd2
  go_wp2
  go_loopw [8, 9] (fun v i wr => ∃ (k : Nat) (l : List Int), k ≤ p.length ∧ i = .int .i64 k ∧ l.length ≤ k ∧ OwnL wr w3.heap.size v l ∧ Hid (l = (jnL p q).take k) ∧ Hid (((p.zip q).take k).all (fun z => z.1 == -1 || z.2 == -1 || z.1 == z.2) = true) ∧ Below w3.heap.size w3 wr) (fun _ i _ => p.length - (intOf i).toNat)
  case atStart => exact ⟨0, [], Nat.zero_le _, rfl, Nat.le_refl _, hst, by simp [Hid], by simp [Hid], (Below.refl _ _).alloc (Nat.le_refl _) _⟩
  case round =>
    clear hst
    obtain ⟨k, l, hk, rfl, hlk, hown, hl, hA, hBl⟩ := hrel
    have hBs := hBl.size
    by_cases hlt : k < p.length
    · obtain ⟨b1, o1, x, ha1, _, hlb1, hcell1, hx⟩ := (hp3.below hBl (by omega)).at hlt
      obtain ⟨b2, o2, y, ha2, _, hlb2, hcell2, hy⟩ := (hq3.below hBl (by omega)).at (show k < q.length by omega)
      have hidx1 := idxI ha1 hlt c'
      have hidx2 := idxI ha2 (show k < q.length by omega) c''
      have hxy : -1 ≤ x ∧ -1 ≤ y := by
        obtain ⟨z, hz⟩ := at_of_lt (show k < m.length by omega)
        exact ⟨(okW_at HOP.out hx.out hz).1, (okW_at HOQ.out hy.out hz).1⟩
      have hlb1' : b1 < w3.heap.size := by omega
      have hlb2' : b2 < w3.heap.size := by omega
      clear ha1 ha2 hp3 hq3
      have cases5 : (x = -1 ∧ x < y) ∨ (x = -1 ∧ y ≤ x) ∨ (x ≠ -1 ∧ y = -1 ∧ y ≤ x) ∨ (x ≠ -1 ∧ y ≠ -1 ∧ x = y ∧ y ≤ x) ∨ (x ≠ -1 ∧ y ≠ -1 ∧ x ≠ y) := by omega
      rcases cases5 with ⟨h1, hlt2⟩ | ⟨h1, hge2⟩ | ⟨h1, h2, hge2⟩ | ⟨h1, h2, h3, hge2⟩ | ⟨h1, h2, h3⟩
      · skip
        have HL2 : Hid (l ++ [y] = (jnL p q).take (k + 1)) := by show _ = _; rw [take_snoc (jnL_at hx.out hy.out), ← hl.out, show max x y = y from by omega]
        have HA2 := Lib.hid (agree_step hx.out hy.out hA.out (.inl h1))
        have hc1 : (x != -1) = false := by rw [h1]; rfl
        clear h1
        go_wp2_with fail
        go_quiet (fail)
        go_wp2
        have e1 : (wr.drewN nq).cell? ⟨b1, o1 + k, none⟩ = some (.int .i64 x) := hcell1
        have e2 : (wr.drewN nq).cell? ⟨b2, o2 + k, none⟩ = some (.int .i64 y) := hcell2
        have hownq : OwnL (wr.drewN nq) w3.heap.size u8 l := hown
        have hBq := bdrew hBl nq
        have hsq : w3.heap.size ≤ (wr.drewN nq).heap.size := hBs
        clear hcell1 hcell2 hown hBl hBs
        generalize wr.drewN nq = wq at e1 e2 hownq hBq hsq ⊢
        go_region_held3 (fun w' => w'.cell? ⟨b1, o1 + k, none⟩ = some (.int .i64 x) ∧ w'.cell? ⟨b2, o2 + k, none⟩ = some (.int .i64 y)) (first | go_keep | exact ⟨(hb1.cell (p := ⟨b1, o1 + k, none⟩) hlb1').trans e1, (hb1.cell (p := ⟨b2, o2 + k, none⟩) hlb2').trans e2⟩) ((refine step_app1 (by rfl) _ _ (by rfl) w3.heap.size _ _ (by rfl) hownq y (by rfl) (by omega) (by omega) ?_; intro v' w1 hown1 hb1))
        have hB1 := hBq.trans hb1
        clear hb1 hBq hownq e1 e2
        go_wp2
        go_roundw
        case rel => exact ⟨k + 1, _, by omega, by go_num, by simp; omega, hown1, HL2, HA2, hB1⟩
        case measure => simp [intOf]; omega
      · skip
        have hmx := maxLe hge2
        have HL2 : Hid (l ++ [x] = (jnL p q).take (k + 1)) := by show _ = _; rw [take_snoc (jnL_at hx.out hy.out), ← hl.out, show max x y = x from by omega]
        have HA2 := Lib.hid (agree_step hx.out hy.out hA.out (.inl h1))
        have hc1 : (x != -1) = false := by rw [h1]; rfl
        clear h1
        go_wp2_with fail
        go_quiet (fail)
        go_wp2
        have e1 : (wr.drewN nq).cell? ⟨b1, o1 + k, none⟩ = some (.int .i64 x) := hcell1
        have e2 : (wr.drewN nq).cell? ⟨b2, o2 + k, none⟩ = some (.int .i64 y) := hcell2
        have hownq : OwnL (wr.drewN nq) w3.heap.size u8 l := hown
        have hBq := bdrew hBl nq
        have hsq : w3.heap.size ≤ (wr.drewN nq).heap.size := hBs
        clear hcell1 hcell2 hown hBl hBs
        generalize wr.drewN nq = wq at e1 e2 hownq hBq hsq ⊢
        go_region_held3 (fun w' => w'.cell? ⟨b1, o1 + k, none⟩ = some (.int .i64 x) ∧ w'.cell? ⟨b2, o2 + k, none⟩ = some (.int .i64 y)) (first | go_keep | exact ⟨(hb1.cell (p := ⟨b1, o1 + k, none⟩) hlb1').trans e1, (hb1.cell (p := ⟨b2, o2 + k, none⟩) hlb2').trans e2⟩) ((refine step_app1 (by rfl) _ _ (by rfl) w3.heap.size _ _ (by rfl) hownq x (by rfl) (by omega) (by omega) ?_; intro v' w1 hown1 hb1))
        have hB1 := hBq.trans hb1
        clear hb1 hBq hownq e1 e2
        go_wp2
        go_roundw
        case rel => exact ⟨k + 1, _, by omega, by go_num, by simp; omega, hown1, HL2, HA2, hB1⟩
        case measure => simp [intOf]; omega
      · skip
        have hmx := maxLe hge2
        have HL2 : Hid (l ++ [x] = (jnL p q).take (k + 1)) := by show _ = _; rw [take_snoc (jnL_at hx.out hy.out), ← hl.out, show max x y = x from by omega]
        have HA2 := Lib.hid (agree_step hx.out hy.out hA.out (.inr (.inl h2)))
        have hc1 : (x != -1) = true := by rw [bne_iff_ne]; exact h1
        have hc2 : (y != -1) = false := by rw [h2]; rfl
        clear h1 h2
        go_wp2_with fail
        go_quiet (fail)
        go_wp2
        have e1 : (wr.drewN nq).cell? ⟨b1, o1 + k, none⟩ = some (.int .i64 x) := hcell1
        have e2 : (wr.drewN nq).cell? ⟨b2, o2 + k, none⟩ = some (.int .i64 y) := hcell2
        have hownq : OwnL (wr.drewN nq) w3.heap.size u8 l := hown
        have hBq := bdrew hBl nq
        have hsq : w3.heap.size ≤ (wr.drewN nq).heap.size := hBs
        clear hcell1 hcell2 hown hBl hBs
        generalize wr.drewN nq = wq at e1 e2 hownq hBq hsq ⊢
        go_region_held3 (fun w' => w'.cell? ⟨b1, o1 + k, none⟩ = some (.int .i64 x) ∧ w'.cell? ⟨b2, o2 + k, none⟩ = some (.int .i64 y)) (first | go_keep | exact ⟨(hb1.cell (p := ⟨b1, o1 + k, none⟩) hlb1').trans e1, (hb1.cell (p := ⟨b2, o2 + k, none⟩) hlb2').trans e2⟩) ((refine step_app1 (by rfl) _ _ (by rfl) w3.heap.size _ _ (by rfl) hownq x (by rfl) (by omega) (by omega) ?_; intro v' w1 hown1 hb1))
        have hB1 := hBq.trans hb1
        clear hb1 hBq hownq e1 e2
        go_wp2
        go_roundw
        case rel => exact ⟨k + 1, _, by omega, by go_num, by simp; omega, hown1, HL2, HA2, hB1⟩
        case measure => simp [intOf]; omega
      · skip
        have hmx := maxLe hge2
        have HL2 : Hid (l ++ [x] = (jnL p q).take (k + 1)) := by show _ = _; rw [take_snoc (jnL_at hx.out hy.out), ← hl.out, show max x y = x from by omega]
        have HA2 := Lib.hid (agree_step hx.out hy.out hA.out (.inr (.inr h3)))
        have hc1 : (x != -1) = true := by rw [bne_iff_ne]; exact h1
        have hc2 : (y != -1) = true := by rw [bne_iff_ne]; exact h2
        have hc3 : (x != y) = false := by rw [h3]; exact bne_self_eq_false y
        clear h1 h2 h3
        go_wp2_with fail
        go_quiet (fail)
        go_wp2
        have e1 : (wr.drewN nq).cell? ⟨b1, o1 + k, none⟩ = some (.int .i64 x) := hcell1
        have e2 : (wr.drewN nq).cell? ⟨b2, o2 + k, none⟩ = some (.int .i64 y) := hcell2
        have hownq : OwnL (wr.drewN nq) w3.heap.size u8 l := hown
        have hBq := bdrew hBl nq
        have hsq : w3.heap.size ≤ (wr.drewN nq).heap.size := hBs
        clear hcell1 hcell2 hown hBl hBs
        generalize wr.drewN nq = wq at e1 e2 hownq hBq hsq ⊢
        go_region_held3 (fun w' => w'.cell? ⟨b1, o1 + k, none⟩ = some (.int .i64 x) ∧ w'.cell? ⟨b2, o2 + k, none⟩ = some (.int .i64 y)) (first | go_keep | exact ⟨(hb1.cell (p := ⟨b1, o1 + k, none⟩) hlb1').trans e1, (hb1.cell (p := ⟨b2, o2 + k, none⟩) hlb2').trans e2⟩) ((refine step_app1 (by rfl) _ _ (by rfl) w3.heap.size _ _ (by rfl) hownq x (by rfl) (by omega) (by omega) ?_; intro v' w1 hown1 hb1))
        have hB1 := hBq.trans hb1
        clear hb1 hBq hownq e1 e2
        go_wp2
        go_roundw
        case rel => exact ⟨k + 1, _, by omega, by go_num, by simp; omega, hown1, HL2, HA2, hB1⟩
        case measure => simp [intOf]; omega
      · have HF := Lib.hid (agree_fails hx.out hy.out h1 h2 h3)
        have hc1 : (x != -1) = true := by rw [bne_iff_ne]; exact h1
        have hc2 : (y != -1) = true := by rw [bne_iff_ne]; exact h2
        have hc3 : (x != y) = true := by rw [bne_iff_ne]; exact h3
        clear h1 h2 h3
        go_wp2_with fail
        go_quiet (fail)
        go_wp2
        go_ret2
        exact NewIB.none (jp_no (.inr (.inr (.inr HF.out)))) (bdrew (bnext (Dr.below hd3 _) hBl) _)
    · go_wp2
      go_ret2
      have h := hl.out
      rw [List.take_of_length_le (by rw [jnL_len (by omega)]; omega)] at h
      subst h
      obtain ⟨a5, c5, rfl, hoi⟩ := hown.slice
      refine NewIB.some (jp_yes HOK.out HOP.out HOQ.out (agree_end (by omega) hA.out)) rfl ?_ (bnext (Dr.below hd3 _) hBl)
      intro i hi
      obtain ⟨b, o, e1, e2, e3, e4⟩ := hoi.oi i hi
      exact ⟨b, o, e1, by omega, e3, e4⟩

end Go.Proofs.Ytehoagbpgahopaa
