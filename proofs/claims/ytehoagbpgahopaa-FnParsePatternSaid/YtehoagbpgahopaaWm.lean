/- Walks: a copy of a list; patterns joined. -/
import Derived.Test.YtehoagbpgahopaaOwn
import Derived.Test.YtehoagbpgahopaaWk
import Derived.Test.YtehoagbpgahopaaMath
import Derived.StillTailTactics
namespace Go.Proofs.Ytehoagbpgahopaa
open Go.RowKit

set_option maxHeartbeats 1000000 in
theorem x_CloneI {l : List Int} {a : Option Addr} {c lo hi : Nat} {w : World} (hm : RI w lo hi a l) (hB : hi ≤ w.heap.size) (h0 : l ≠ []) (hl : l.length ≤ 1048576) :
    Calls Try.prog 137 #[.slice a l.length c] w (NewI w l) := by
  have hst := OwnL.made w w.heap.size (Nat.le_refl _)
  have hlen : 0 < l.length := by cases l with | nil => exact absurd rfl h0 | cons _ _ => simp
  obtain ⟨b, o, ha, _, hb, _⟩ := hm 0 hlen
  have hms := hm.below ((Below.refl _ w).alloc (Nat.le_refl _) (.cells #[] 3)) hB
  subst ha
  have hnil := fun wx : World => Lib.run_eql_slice_nil (P := Try.prog) wx 23 3 (some ⟨b, o, none⟩) l.length c 0 0 undI
  go_enter Try.func137, Try.ntmps137
  go_wp2_with (first
    | (at_builtin; refine wpList_appN rfl _ _ rfl w.heap.size _ [] rfl hst l lo hi c _ rfl hms h0 (by simp) (by omega) (by simp) ?_; intro v' w1 hown1 hb1)
    | go_in)
  simp only [List.nil_append] at hown1
  have hB1 := ((Below.refl _ w).alloc (Nat.le_refl _) (.cells #[] 3)).trans hb1
  clear hb1
  obtain ⟨a2, c2, rfl, ho⟩ := hown1.slice
  go_ret
  exact ⟨a2, c2, rfl, ho, hB1⟩

/-- no two different levels -/
theorem agree_fails {p q : List Int} {k : Nat} {x y : Int} (hx : p[k]? = some x) (hy : q[k]? = some y) (h1 : x ≠ -1) (h2 : y ≠ -1) (h3 : x ≠ y) : agree p q = false := all_fails (zip_at hx hy) (by simp [h1, h2, h3])
theorem agree_step {p q : List Int} {k : Nat} {x y : Int} (hx : p[k]? = some x) (hy : q[k]? = some y) (ha : ((p.zip q).take k).all (fun z => z.1 == -1 || z.2 == -1 || z.1 == z.2) = true) (h : x = -1 ∨ y = -1 ∨ x = y) :
    ((p.zip q).take (k + 1)).all (fun z => z.1 == -1 || z.2 == -1 || z.1 == z.2) = true := all_snoc (zip_at hx hy) ha (by rcases h with h | h | h <;> simp [h])
theorem agree_end {p q : List Int} {k : Nat} (hk : p.length ≤ k) (ha : ((p.zip q).take k).all (fun z => z.1 == -1 || z.2 == -1 || z.1 == z.2) = true) : agree p q = true := all_whole ha (by rw [List.length_zip]; omega)

/-- a list whose first k places are joined, the others those of p -/
def Mix (p q : List Int) (k : Nat) (l : List Int) : Prop := l.length = p.length ∧ (∀ i, i < k → l[i]? = (jnL p q)[i]?) ∧ ∀ i, k ≤ i → l[i]? = p[i]?
theorem Mix.start (p q : List Int) : Mix p q 0 p := ⟨rfl, fun i h => absurd h (Nat.not_lt_zero i), fun _ _ => rfl⟩
theorem Mix.keep {p q l : List Int} {k : Nat} {x y : Int} (h : Mix p q k l) (hx : p[k]? = some x) (hy : q[k]? = some y) (h1 : -1 ≤ x) (h2 : y = -1) : Mix p q (k + 1) l := by
  refine ⟨h.1, fun i hi => ?_, fun i hi => h.2.2 i (by omega)⟩
  by_cases e : i = k
  · subst e; rw [h.2.2 i (Nat.le_refl _), hx, jnL_at hx hy, h2, Int.max_eq_left h1]
  · exact h.2.1 i (by omega)
theorem Mix.put {p q l : List Int} {k : Nat} {x y : Int} (h : Mix p q k l) (hx : p[k]? = some x) (hy : q[k]? = some y) (h1 : max x y = y) : Mix p q (k + 1) (l.set k y) := by
  have hk : k < l.length := by rw [h.1]; exact lt_of_at hx
  refine ⟨by rw [List.length_set]; exact h.1, fun i hi => ?_, fun i hi => by rw [List.getElem?_set_ne (by omega)]; exact h.2.2 i (by omega)⟩
  by_cases e : i = k
  · subst e; rw [jnL_at hx hy, h1]; simp [hk]
  · rw [List.getElem?_set_ne (by omega)]; exact h.2.1 i (by omega)
theorem Mix.done {p q l : List Int} {k : Nat} (h : Mix p q k l) (hpq : p.length = q.length) (hk : p.length ≤ k) : l = jnL p q := by
  apply List.ext_getElem?
  intro i
  by_cases hi : i < k
  · exact h.2.1 i hi
  · rw [List.getElem?_eq_none (by rw [h.1]; omega), List.getElem?_eq_none (by rw [jnL_len hpq]; omega)]

set_option maxHeartbeats 2000000 in
theorem i_JoinPatterns {m p q : List Int} {a a' a'' : Option Addr} {c c' c'' lo hi lo' hi' lo'' hi'' : Nat} {w : World} (hm : RI w lo hi a m) (hlm : m.length ≤ 9223372036854775807) (hp : RI w lo' hi' a' p) (hlp : p.length ≤ 9223372036854775807) (hq : RI w lo'' hi'' a'' q) (hlq : q.length ≤ 9223372036854775807)
    (hb' : hi' ≤ w.heap.size) (hb'' : hi'' ≤ w.heap.size) :
    Calls Try.prog 54 #[.slice a m.length c, .slice a' p.length c', .slice a'' q.length c''] w (NewIB w (jpL m p q) (jpB m p q)) := by
  cases hop : (okM m && okP m p)
  · have HOP := Lib.hid hop; clear hop
    go_enter Try.func54, Try.ntmps54
    go_wp2_with fail
    refine (i_ValidPattern hm hlm hp hlp).mono ?_
    rintro e w1 ⟨rfl, hd⟩
    rw [HOP.out]
    go_wp2
    go_ret2
    exact NewIB.none (jp_no' HOP.out) (Dr.below hd _)
  have h0 : okM m = true ∧ okP m p = true := by simpa using hop
  have HOK := Lib.hid h0.1
  have HOK2 := Lib.hid h0.2
  have HOP := Lib.hid hop; clear hop h0
  cases hoq : okP m q
  · have HOQ := Lib.hid hoq; clear hoq
    go_enter Try.func54, Try.ntmps54
    go_wp2_with fail
    refine (i_ValidPattern hm hlm hp hlp).mono ?_
    rintro e w1 ⟨rfl, hd⟩
    rw [HOP.out]
    go_wp2_with fail
    refine (i_ValidPattern (hm.dr hd) hlm (hq.dr hd) hlq).mono ?_
    rintro e w2 ⟨rfl, hd2⟩
    rw [HOQ.out, Bool.and_false]
    go_wp2
    go_ret2
    exact NewIB.none (jp_no (.inr (.inr (.inl HOQ.out)))) (Dr.below (Dr.trans hd hd2) _)
  have HOQ := Lib.hid hoq; clear hoq
  have h1 := okW_len HOK2.out
  have h2 := okW_len HOQ.out
  have h5 := okM_len HOK.out
  have hp5 : p.length ≤ 5 := by omega
  have hpq : p.length ≤ q.length := by omega
  have hqp : q.length ≤ p.length := by omega
  have hmp : p.length ≤ m.length := by omega
  have HP0 : Hid (p ≠ []) := by intro e; rw [e] at h1; simp at h1; omega
  clear h1 h2
  go_enter Try.func54, Try.ntmps54
  go_wp2_with fail
  refine (i_ValidPattern hm hlm hp hlp).mono ?_
  rintro e w1 ⟨rfl, hd⟩
  rw [HOP.out]
  go_wp2_with fail
  refine (i_ValidPattern (hm.dr hd) hlm (hq.dr hd) hlq).mono ?_
  rintro e w2 ⟨rfl, hd2⟩
  rw [HOQ.out, HOK.out, Bool.and_true]
  have hd2 : Dr w w2 := Dr.trans hd hd2
  have hz2 := Dr.le hd2
  have hm2 := hm.dr hd2
  have hp2 := hp.dr hd2
  have hq2 := hq.dr hd2
  clear hm hp hq hd
  go_wp2_with fail
  refine (x_CloneI hp2 (by omega) HP0.out (by omega)).mono ?_
  rintro e w3 ⟨a3, c3, rfl, h3, hb3⟩
  have hp3 := hp2.below hb3 (by omega)
  have hq3 := hq2.below hb3 (by omega)
  have hz3 := hb3.size
  clear hm2 hp2 hq2
  go_wp2
  go_loopw [25] (fun i wr => ∃ (k : Nat) (l : List Int), k ≤ q.length ∧ i = .int .i64 k ∧ OI wr w2.heap.size w3.heap.size a3 l ∧ Hid (Mix p q k l) ∧ Hid (((p.zip q).take k).all (fun z => z.1 == -1 || z.2 == -1 || z.1 == z.2) = true) ∧ Upd w2.heap.size w3.heap.size w3 wr ∧ Hid (wr.heap.size = w3.heap.size)) (fun i _ => q.length - (intOf i).toNat)
  case atStart => exact ⟨0, p, Nat.zero_le _, rfl, h3, Mix.start p q, by simp [Hid], Upd.refl _ _ _, rfl⟩
  case round =>
    obtain ⟨k, l, hk, rfl, ho, hM, hA, hU, hS⟩ := hrel
    by_cases hlt : k < q.length
    · obtain ⟨b1, o1, x, ha1, _, _, hcell1, hx⟩ := (hp3.upd hU (by omega) (.inl (by omega))).at (show k < p.length by omega)
      obtain ⟨b2, o2, y, ha2, _, _, hcell2, hy⟩ := (hq3.upd hU (by omega) (.inl (by omega))).at hlt
      have hidx1 := idxI ha1 (show k < p.length by omega) c'
      have hidx2 := idxI ha2 hlt c''
      have hxy : -1 ≤ x ∧ -1 ≤ y := by
        obtain ⟨z, hz⟩ := at_of_lt (show k < m.length by omega)
        exact ⟨(okW_at HOK2.out hx.out hz).1, (okW_at HOQ.out hy.out hz).1⟩
      clear ha1 ha2 hp3 hq3
      by_cases hy1 : y = -1
      · have HM2 : Hid (Mix p q (k + 1) l) := hM.out.keep hx.out hy.out hxy.1 hy1
        have HA2 := Lib.hid (agree_step hx.out hy.out hA.out (.inr (.inl hy1)))
        have hc : (y == -1) = true := by rw [hy1]; rfl
        clear hy1
        go_wp2
        go_roundw
        case rel => exact ⟨k + 1, l, by omega, by go_num, ho, HM2, HA2, hU, hS⟩
        case measure => simp [intOf]; omega
      · have hc : (y == -1) = false := by rw [beq_eq_false_iff_ne]; exact hy1
        have hkl : k < l.length := by rw [hM.out.1]; omega
        have finish : max x y = y → (x = -1 ∨ y = -1 ∨ x = y) → True := fun _ _ => trivial
        obtain ⟨b3, o3, ha3, h4, h5', ⟨u, hu, hcell3⟩, hfr⟩ := ho k hkl
        have HA3 := Lib.hid ha3
        have hidx3 := idxI ha3 (show k < p.length by omega) c3
        have ho2 := Lib.hid ((HA3.out ▸ ho).set hkl y)
        have hU2 := Lib.hid (hU.setCell (p := ⟨b3, o3 + k, none⟩) h4 h5' (.int .i64 y))
        have HS2 : Hid ((wr.setCell ⟨b3, o3 + k, none⟩ (.int .i64 y)).heap.size = w3.heap.size) := by show _ = _; simp [World.setCell]; exact hS.out
        clear ha3 ho hu h4 h5' finish
        by_cases hx1 : x = -1
        · have HM2 : Hid (Mix p q (k + 1) (l.set k y)) := hM.out.put hx.out hy.out (by omega)
          have HA2 := Lib.hid (agree_step hx.out hy.out hA.out (.inl hx1))
          have hc2 : (x != -1) = false := by rw [hx1]; rfl
          clear hx1 hy1 hU
          go_wp2
          go_roundw
          case rel => exact ⟨k + 1, _, by omega, by go_num, HA3.out.symm ▸ ho2.out, HM2, HA2, hU2.out, HS2⟩
          case measure => simp [intOf]; omega
        · have hc2 : (x != -1) = true := by rw [bne_iff_ne]; exact hx1
          by_cases hxe : x = y
          · have HM2 : Hid (Mix p q (k + 1) (l.set k y)) := hM.out.put hx.out hy.out (by omega)
            have HA2 := Lib.hid (agree_step hx.out hy.out hA.out (.inr (.inr hxe)))
            have hc3 : (x != y) = false := by rw [hxe]; exact bne_self_eq_false y
            clear hx1 hy1 hxe hU
            go_wp2
            go_roundw
            case rel => exact ⟨k + 1, _, by omega, by go_num, HA3.out.symm ▸ ho2.out, HM2, HA2, hU2.out, HS2⟩
            case measure => simp [intOf]; omega
          · have HF := Lib.hid (agree_fails hx.out hy.out hx1 hy1 hxe)
            have hc3 : (x != y) = true := by rw [bne_iff_ne]; exact hxe
            clear hx1 hy1 hxe
            go_wp2
            go_ret2
            exact NewIB.none (jp_no (.inr (.inr (.inr HF.out)))) (bupd (bnext (Dr.below hd2 _) hb3) hU (by omega))
    · go_wp2
      go_ret2
      have hl := hM.out.done (by omega) (by omega)
      subst hl
      refine NewIB.some (jp_yes HOK.out HOK2.out HOQ.out (agree_end (by omega) hA.out)) (jnL_len (by omega)).symm ?_ (bupd (bnext (Dr.below hd2 _) hb3) hU (by omega))
      intro i hi
      obtain ⟨b, o, e1, e2, e3, e4⟩ := ho i hi
      have := hS.out
      exact ⟨b, o, e1, by omega, by omega, e4⟩

end Go.Proofs.Ytehoagbpgahopaa
