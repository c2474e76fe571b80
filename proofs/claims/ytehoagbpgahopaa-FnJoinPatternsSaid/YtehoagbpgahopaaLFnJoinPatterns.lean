/- The walk of FnJoinPatterns: it returns true and writes nothing that was there. -/
import Derived.Test.YtehoagbpgahopaaLFnMatches
import Derived.Test.YtehoagbpgahopaaLFnAllTests
import Derived.Test.YtehoagbpgahopaaWn
import Derived.Test.YtehoagbpgahopaaTg
namespace Go.Proofs.Ytehoagbpgahopaa
open Go.RowKit

/-- a test matches what is joined exactly if it matches both -/
theorem mB_jn2 {p q t : List Int} (h1 : p.length = t.length) (h2 : q.length = t.length) (hp : ∀ x ∈ p, -1 ≤ x) (hq : ∀ x ∈ q, -1 ≤ x) (hag : agree p q = true) : mB (jnL p q) t = (mB p t && mB q t) := by
  unfold mB jnL agree at *
  induction p generalizing q t with
  | nil => cases t with
    | nil => cases q with
      | nil => rfl
      | cons _ _ => simp at h2
    | cons _ _ => simp at h1
  | cons x p ih => cases t with
    | nil => simp at h1
    | cons z t => cases q with
      | nil => simp at h2
      | cons y q =>
        have hx := hp x (List.mem_cons_self ..)
        have hy := hq y (List.mem_cons_self ..)
        rw [List.zip_cons_cons, List.all_cons, Bool.and_eq_true] at hag
        have hi := ih (q := q) (t := t) (by simpa using h1) (by simpa using h2) (fun z hz => hp z (List.mem_cons_of_mem _ hz)) (fun z hz => hq z (List.mem_cons_of_mem _ hz)) hag.2
        rw [List.zipWith_cons_cons, List.zip_cons_cons, List.zip_cons_cons, List.zip_cons_cons, List.all_cons, List.all_cons, List.all_cons, hi]
        have h9 := hag.1
        rw [Bool.eq_iff_iff]
        simp only [Bool.and_eq_true, Bool.or_eq_true, beq_iff_eq] at h9 ⊢
        constructor
        · rintro ⟨h3, h4, h5⟩
          exact ⟨⟨by omega, h4⟩, by omega, h5⟩
        · rintro ⟨⟨h3, h4⟩, h5, h6⟩
          exact ⟨by omega, h4, h6⟩
theorem agree_comm {p q : List Int} : agree p q = agree q p := by
  unfold agree
  induction p generalizing q with
  | nil => simp
  | cons x p ih => cases q with
    | nil => simp
    | cons y q =>
      rw [List.zip_cons_cons, List.zip_cons_cons, List.all_cons, List.all_cons, ih, Bool.eq_iff_iff]
      simp only [Bool.and_eq_true, Bool.or_eq_true, beq_iff_eq]
      constructor
      · rintro ⟨h1, h2⟩
        refine ⟨?_, h2⟩
        rcases h1 with (h1 | h1) | h1
        · exact .inl (.inr h1)
        · exact .inl (.inl h1)
        · exact .inr h1.symm
      · rintro ⟨h1, h2⟩
        refine ⟨?_, h2⟩
        rcases h1 with (h1 | h1) | h1
        · exact .inl (.inr h1)
        · exact .inl (.inl h1)
        · exact .inr h1.symm
theorem jnL_comm {p q : List Int} : jnL p q = jnL q p := by
  unfold jnL
  induction p generalizing q with
  | nil => simp
  | cons x p ih => cases q with
    | nil => simp
    | cons y q => rw [List.zipWith_cons_cons, List.zipWith_cons_cons, ih, Int.max_comm]
theorem jn_okP {m p q : List Int} (hp : okP m p = true) (hq : okP m q = true) : okP m (jnL p q) = true := by
  have h1 := okW_len hp
  have h2 := okW_len hq
  unfold okP okW
  rw [Bool.and_eq_true, decide_eq_true_eq, List.all_eq_true]
  refine ⟨by rw [jnL_len (by omega)]; exact h1, fun z hz => ?_⟩
  obtain ⟨k, hk⟩ := List.getElem?_of_mem hz
  rw [List.getElem?_zip_eq_some] at hk
  have hkl := lt_of_at hk.2
  obtain ⟨x, hx⟩ := at_of_lt (show k < p.length by omega)
  obtain ⟨y, hy⟩ := at_of_lt (show k < q.length by omega)
  have h3 := jnL_at hx hy
  rw [hk.1] at h3
  have h4 := Option.some.inj h3
  have h5 := okW_at hp hx hk.2
  have h6 := okW_at hq hy hk.2
  exact inR_true.2 (by omega)
theorem jp_at {m p q r : List Int} {k : Nat} (hM : okM m = true) (hp : okP m p = true) (hq : okP m q = true) (hag : agree p q = true) (hr : (apL m m.length)[k]? = some r) :
    (okM m && okP m (jnL p q) && okT m r && mB (jnL p q) r) = ((okM m && okP m p && okT m r && mB p r) && (okM m && okP m q && okT m r && mB q r)) := by
  have h1 := full_row hM hr
  have h2 : okT m r = true := by rw [hM] at h1; simpa using h1
  have h3 := okW_len h2
  rw [hM, hp, hq, h2, jn_okP hp hq, mB_jn2 (by rw [okW_len hp, h3]) (by rw [okW_len hq, h3]) (okW_ge hp) (okW_ge hq) hag]
  simp
theorem i_MatchesB {m p t : List Int} {a a' a'' : Option Addr} {c c' c'' lo hi lo' hi' lo'' hi'' : Nat} {w w' : World} {x : Bool} (hb : Below w.heap.size w w') (hm : RI w lo hi a m) (hlm : m.length ≤ 9223372036854775807) (hp : RI w lo' hi' a' p) (hlp : p.length ≤ 9223372036854775807) (ht : RI w lo'' hi'' a'' t) (hlt : t.length ≤ 9223372036854775807)
    (h1 : hi ≤ w.heap.size) (h2 : hi' ≤ w.heap.size) (h3 : hi'' ≤ w.heap.size) (hx : (okM m && okP m p && okT m t && mB p t) = x) :
    Calls Try.prog 57 #[.slice a m.length c, .slice a' p.length c', .slice a'' t.length c''] w' (fun e v => e = .returned (.bool x) ∧ Below w.heap.size w v) := by
  refine (i_Matches (hm.below hb h1) hlm (hp.below hb h2) hlp (ht.below hb h3) hlt (Nat.le_trans h2 hb.size) (Nat.le_trans h3 hb.size)).mono ?_
  rintro e v ⟨rfl, hv⟩
  exact ⟨by rw [hx], hb.trans (hv.mono hb.size)⟩

set_option maxRecDepth 100000 in
set_option maxHeartbeats 20000000 in
theorem law_FnJoinPatterns {m0 : Nat} {a0 : Option Addr} {c0 : Nat} {w : World} (f0 : RB w w.heap.size a0 m0) (l0 : m0 ≤ c0) :
    Calls Try.prog 9 #[.slice a0 m0 c0] w (Tru w) := by
  by_cases hb : m0 ≤ 1048576
  case neg =>
    go_enter Try.func9, Try.ntmps9
    go_wp2
    go_ret
    exact ⟨rfl, Below.refl _ _⟩
  go_enter Try.func9, Try.ntmps9
  go_wp2_with fail
  refine (s_DrawJoinPatterns f0 l0 hb).mono ?_
  rintro e w1 ⟨a1, c1, m, a2, c2, p, a3, c3, t, rfl, ⟨hG, hP, hT⟩, B1⟩
  have z1 := B1.size
  have hm := hG.ri
  have hp := hP.ri
  have ht := hT.ri
  have hl10 := hG.lp.1
  have pl11 := hP.lp.1
  have tl11 := hT.lp.1
  clear hG hP hT
  clear f0
  obtain ⟨J, hJ⟩ : ∃ J, jpL m p t = J := ⟨_, rfl⟩
  obtain ⟨B, hB⟩ : ∃ B, jpB m p t = B := ⟨_, rfl⟩
  have HJ := Lib.hid hJ
  have HB := Lib.hid hB
  have hjl := @jpL_len m p t
  rw [hJ] at hjl
  have heqJ : eqI J J = true := eqI_true.2 rfl
  clear hJ hB
  cases B
  · skip
    go_wp2_with fail
    refine (i_JoinPatterns hm (by omega) hp (by omega) ht (by omega) (by omega) (by omega)).mono ?_
    rintro e w2 ⟨Aa, Ac, rfl, A, b2⟩
    have z2 := b2.size
    have hm := hm.below b2 (by omega)
    have hp := hp.below b2 (by omega)
    have ht := ht.below b2 (by omega)
    have B2 := B1.trans (b2.mono (by omega))
    clear b2 B1
    rw [HJ.out] at A
    rw [HJ.out, HB.out]
    go_wp2_with fail
    refine (s_JoinPatterns hm (by omega) hp (by omega) ht (by omega) (by omega) (by omega)).mono ?_
    rintro e w3 ⟨Sa, Sc, rfl, S, b3⟩
    have z3 := b3.size
    have hm := hm.below b3 (by omega)
    have hp := hp.below b3 (by omega)
    have ht := ht.below b3 (by omega)
    have A := A.below b3 (by omega)
    have B3 := B2.trans (b3.mono (by omega))
    clear b3 B2
    rw [HJ.out] at S
    rw [HJ.out, HB.out]
    go_wp2_with fail
    refine (l_equalInts A.ri S.ri (by omega) (by omega)).mono ?_
    rintro e w4 ⟨rfl, d4⟩
    have b4 := Dr.below d4 w3.heap.size
    have z4 := Dr.le d4
    clear d4
    have hm := hm.below b4 (by omega)
    have hp := hp.below b4 (by omega)
    have ht := ht.below b4 (by omega)
    have A := A.below b4 (by omega)
    have S := S.below b4 (by omega)
    have B4 := B3.trans (b4.mono (by omega))
    clear b4 B3
    rw [heqJ]
    go_wp2_with fail
    refine (l_equalInts A.ri S.ri (by omega) (by omega)).mono ?_
    rintro e w5 ⟨rfl, d5⟩
    have b5 := Dr.below d5 w4.heap.size
    have z5 := Dr.le d5
    clear d5
    have hm := hm.below b5 (by omega)
    have hp := hp.below b5 (by omega)
    have ht := ht.below b5 (by omega)
    have A := A.below b5 (by omega)
    have S := S.below b5 (by omega)
    have B5 := B4.trans (b5.mono (by omega))
    clear b5 B4
    rw [heqJ]
    go_wp2
    go_ret
    exact ⟨rfl, B5⟩
  have h4 : okM m = true ∧ okP m p = true ∧ okP m t = true ∧ agree p t = true := by have := HB.out; unfold jpB at this; simpa [and_assoc] using this
  have HOK := Lib.hid h4.1
  have HP := Lib.hid h4.2.1
  have HQ := Lib.hid h4.2.2.1
  have HAG := Lib.hid h4.2.2.2
  have HYES := Lib.hid (jp_yes h4.1 h4.2.1 h4.2.2.1 h4.2.2.2)
  have HJN : Hid (J = jnL p t) := by show _ = _; rw [← HJ.out, HYES.out.1]
  have HREV : Hid (jpL m t p = J ∧ jpB m t p = true) := by have := jp_yes h4.1 h4.2.2.1 h4.2.1 (by rw [agree_comm]; exact h4.2.2.2); exact ⟨by rw [this.1, jnL_comm, HJN.out], this.2⟩
  have hm5 := okM_len h4.1
  clear h4
  go_wp2_with fail
  refine (i_JoinPatterns hm (by omega) hp (by omega) ht (by omega) (by omega) (by omega)).mono ?_
  rintro e w2 ⟨Aa, Ac, rfl, A, b2⟩
  have z2 := b2.size
  have hm := hm.below b2 (by omega)
  have hp := hp.below b2 (by omega)
  have ht := ht.below b2 (by omega)
  have B2 := B1.trans (b2.mono (by omega))
  clear b2 B1
  rw [HJ.out] at A
  rw [HJ.out, HB.out]
  go_wp2_with fail
  refine (s_JoinPatterns hm (by omega) hp (by omega) ht (by omega) (by omega) (by omega)).mono ?_
  rintro e w3 ⟨Sa, Sc, rfl, S, b3⟩
  have z3 := b3.size
  have hm := hm.below b3 (by omega)
  have hp := hp.below b3 (by omega)
  have ht := ht.below b3 (by omega)
  have A := A.below b3 (by omega)
  have B3 := B2.trans (b3.mono (by omega))
  clear b3 B2
  rw [HJ.out] at S
  rw [HJ.out, HB.out]
  go_wp2_with fail
  refine (l_equalInts A.ri S.ri (by omega) (by omega)).mono ?_
  rintro e w4 ⟨rfl, d4⟩
  have b4 := Dr.below d4 w3.heap.size
  have z4 := Dr.le d4
  clear d4
  have hm := hm.below b4 (by omega)
  have hp := hp.below b4 (by omega)
  have ht := ht.below b4 (by omega)
  have A := A.below b4 (by omega)
  have S := S.below b4 (by omega)
  have B4 := B3.trans (b4.mono (by omega))
  clear b4 B3
  rw [heqJ]
  go_wp2_with fail
  refine (i_JoinPatterns hm (by omega) ht (by omega) hp (by omega) (by omega) (by omega)).mono ?_
  rintro e w5 ⟨Oa, Oc, rfl, O, b5⟩
  have z5 := b5.size
  have hm := hm.below b5 (by omega)
  have hp := hp.below b5 (by omega)
  have ht := ht.below b5 (by omega)
  have A := A.below b5 (by omega)
  have B5 := B4.trans (b5.mono (by omega))
  clear b5 B4
  rw [HREV.out.1] at O
  rw [HREV.out.1, HREV.out.2]
  obtain ⟨L, hL⟩ : ∃ L, apL m m.length = L := ⟨_, rfl⟩
  have HL := Lib.hid hL
  have HLN := @apL_len m m.length
  have HGR := Lib.hid (@apL_g m m.length)
  rw [hL] at HLN HGR
  clear hL
  go_wp2_with fail
  refine (i_AllTests hm (by omega) (by omega)).mono ?_
  rintro e w6 ⟨Ta, Tc, rfl, T, b6⟩
  have z6 := b6.size
  have hm := hm.below b6 (by omega)
  have hp := hp.below b6 (by omega)
  have ht := ht.below b6 (by omega)
  have A := A.below b6 (by omega)
  have O := O.below b6 (by omega)
  have B6 := B5.trans (b6.mono (by omega))
  clear b6 B5
  rw [HL.out] at T
  rw [HL.out]
  go_wp2
  go_loopw [13] (fun i wr => ∃ k : Nat, k ≤ L.length ∧ i = .int .i64 k ∧ Below w6.heap.size w6 wr) (fun i _ => L.length - (intOf i).toNat)
  case atStart => exact ⟨0, Nat.zero_le _, rfl, Below.refl _ _⟩
  case round =>
    obtain ⟨k, hk, rfl, hd⟩ := hrel
    have hz := hd.size
    have hm := hm.below hd (by omega)
    have hp := hp.below hd (by omega)
    have ht := ht.below hd (by omega)
    have A := A.below hd (by omega)
    have O := O.below hd (by omega)
    have T := T.below hd (by omega)
    have BB := B6.trans (hd.mono (by omega))
    by_cases hlt : k < L.length
    · skip
      obtain ⟨b, o, a5, c5, r, ha, _, _, hcell, hr, hx⟩ := T.rii.at hlt
      have hbs : b < wr.heap.size := World.block_lt_of_cell? wr _ hcell
      have hidx := idxII ha hlt Tc
      have hrl := HGR.out r (List.mem_of_getElem? hx.out)
      have HR := Lib.hid (jp_at HOK.out HP.out HQ.out HAG.out (by rw [HL.out]; exact hx.out))
      obtain ⟨x1, hx1⟩ : ∃ x, (okM m && okP m (jnL p t) && okT m r && mB (jnL p t) r) = x := ⟨_, rfl⟩
      obtain ⟨x2, hx2⟩ : ∃ x, (okM m && okP m p && okT m r && mB p r) = x := ⟨_, rfl⟩
      obtain ⟨x3, hx3⟩ : ∃ x, (okM m && okP m t && okT m r && mB t r) = x := ⟨_, rfl⟩
      have H1 := Lib.hid hx1
      have H2 := Lib.hid hx2
      have H3 := Lib.hid hx3
      have hxx := HR.out
      rw [hx1, hx2, hx3] at hxx
      rw [← HJN.out] at H1
      have HGRL : Hid (r.length ≤ 11) := by show _ ≤ _; have h9 := apL_row r (by rw [HL.out]; exact List.mem_of_getElem? hx.out); omega
      have hrl11 := HGRL.out
      clear ha T hx1 hx2 hx3 HR
      have q1 : m.length ≤ 9223372036854775807 := by omega
      have q2 : J.length ≤ 9223372036854775807 := by omega
      have q3 : p.length ≤ 9223372036854775807 := by omega
      have q4 : t.length ≤ 9223372036854775807 := by omega
      have q5 : r.length ≤ 9223372036854775807 := by omega
      clear hrl hjl heqJ
      have hBq := Below.refl wr.heap.size wr
      have hlb : b < wr.heap.size := hbs
      clear hbs
      cases x2
      · skip
        obtain rfl : x1 = false := by simpa using hxx
        clear hxx
        have HCA : Hid (∀ w', Below wr.heap.size wr w' → Calls Try.prog 57 #[.slice a1 m.length c1, .slice Aa J.length Ac, .slice a5 r.length c5] w' (fun e v => e = .returned (.bool false) ∧ Below wr.heap.size wr v)) := fun w' hb => i_MatchesB hb hm (by omega) A.ri (by omega) hr (by omega) (by omega) (by omega) (by omega) H1.out
        have HCP : Hid (∀ w', Below wr.heap.size wr w' → Calls Try.prog 57 #[.slice a1 m.length c1, .slice a2 p.length c2, .slice a5 r.length c5] w' (fun e v => e = .returned (.bool false) ∧ Below wr.heap.size wr v)) := fun w' hb => i_MatchesB hb hm (by omega) hp (by omega) hr (by omega) (by omega) (by omega) (by omega) H2.out
        clear hm hp ht A O hr H1 H2 H3
        have HS : Hid (∀ w', Below wr.heap.size wr w' → w'.cell? ⟨b, o + k, none⟩ = some (.slice a5 r.length c5)) := fun w' hb => (hb.cell (p := ⟨b, o + k, none⟩) hlb).trans hcell
        clear hcell
        go_wp2_with fail
        refine wp_region_new (by rfl) (by kernel_rfl) ?_
        (refine wpQuiet_step (fun K hK => ?_); go_simp; first | refine hK _ ?_ | refine ⟨_, fun _ _ => rfl, hK _ ?_⟩; clear hK K)
        (refine wpQuiet_step (fun K hK => ?_); go_simp; first | refine hK _ ?_ | refine ⟨_, fun _ _ => rfl, hK _ ?_⟩; clear hK K)
        (refine wpQuiet_step (fun K hK => ?_); go_simp; first | refine hK _ ?_ | refine ⟨_, fun _ _ => rfl, hK _ ?_⟩; clear hK K)
        (refine wpQuiet_step (fun K hK => ?_); go_simp; first | refine hK _ ?_ | refine ⟨_, fun _ _ => rfl, hK _ ?_⟩; clear hK K)
        (refine wpQuiet_step (fun K hK => ?_); go_simp; first | refine hK _ ?_ | refine ⟨_, fun _ _ => rfl, hK _ ?_⟩; clear hK K)
        (refine wpQuiet_step (fun K hK => ?_); go_simp; refine ⟨.slice a5 r.length c5, fun wq hq => ?_, hK _ ?_⟩; (have hc := HS.out wq hq; simp [hc, Result.andThen]); clear hK K)
        (refine wpQuiet_step (fun K hK => ?_); go_simp; refine ⟨.bool false, fun wq hq => (HCA.out wq hq).mono ?_, hK _ ?_⟩; (rintro e v ⟨rfl, hv⟩; exact ⟨rfl, hv⟩); clear hK K)
        (refine wpQuiet_step (fun K hK => ?_); go_simp; first | refine hK _ ?_ | refine ⟨_, fun _ _ => rfl, hK _ ?_⟩; clear hK K)
        (refine wpQuiet_step (fun K hK => ?_); go_simp; first | refine hK _ ?_ | refine ⟨_, fun _ _ => rfl, hK _ ?_⟩; clear hK K)
        (refine wpQuiet_step (fun K hK => ?_); go_simp; first | refine hK _ ?_ | refine ⟨_, fun _ _ => rfl, hK _ ?_⟩; clear hK K)
        (refine wpQuiet_step (fun K hK => ?_); go_simp; first | refine hK _ ?_ | refine ⟨_, fun _ _ => rfl, hK _ ?_⟩; clear hK K)
        (refine wpQuiet_step (fun K hK => ?_); go_simp; first | refine hK _ ?_ | refine ⟨_, fun _ _ => rfl, hK _ ?_⟩; clear hK K)
        (refine wpQuiet_step (fun K hK => ?_); go_simp; refine ⟨.slice a5 r.length c5, fun wq hq => ?_, hK _ ?_⟩; (have hc := HS.out wq hq; simp [hc, Result.andThen]); clear hK K)
        (refine wpQuiet_step (fun K hK => ?_); go_simp; refine ⟨.bool false, fun wq hq => (HCP.out wq hq).mono ?_, hK _ ?_⟩; (rintro e v ⟨rfl, hv⟩; exact ⟨rfl, hv⟩); clear hK K)
        (refine wpQuiet_step (fun K hK => ?_); go_simp; first | refine hK _ ?_ | refine ⟨_, fun _ _ => rfl, hK _ ?_⟩; clear hK K)
        (refine wpQuiet_step (fun K hK => ?_); go_simp; first | refine hK _ ?_ | refine ⟨_, fun _ _ => rfl, hK _ ?_⟩; clear hK K)
        (refine wpQuiet_step (fun K hK => ?_); go_simp; first | refine hK _ ?_ | refine ⟨_, fun _ _ => rfl, hK _ ?_⟩; clear hK K)
        (refine wpQuiet_step (fun K hK => ?_); go_simp; first | refine hK _ ?_ | refine ⟨_, fun _ _ => rfl, hK _ ?_⟩; clear hK K)
        (refine wpQuiet_step (fun K hK => ?_); go_simp; first | refine hK _ ?_ | refine ⟨_, fun _ _ => rfl, hK _ ?_⟩; clear hK K)
        (refine wpQuiet_step (fun K hK => ?_); go_simp; first | refine hK _ ?_ | refine ⟨_, fun _ _ => rfl, hK _ ?_⟩; clear hK K)
        (refine wpQuiet_step (fun K hK => ?_); go_simp; first | refine hK _ ?_ | refine ⟨_, fun _ _ => rfl, hK _ ?_⟩; clear hK K)
        (refine wpQuiet_step (fun K hK => ?_); go_simp; first | refine hK _ ?_ | refine ⟨_, fun _ _ => rfl, hK _ ?_⟩; clear hK K)
        (refine wpQuiet_step (fun K hK => ?_); go_simp; first | refine hK _ ?_ | refine ⟨_, fun _ _ => rfl, hK _ ?_⟩; clear hK K)
        (refine wpQuiet_step (fun K hK => ?_); go_simp; first | refine hK _ ?_ | refine ⟨_, fun _ _ => rfl, hK _ ?_⟩; clear hK K)
        refine wpQuiet_nil ?_
        intro wz hbz
        clear BB
        have hd2 := hd.trans (hbz.mono (by omega))
        go_wp2
        go_roundw
        case rel => exact ⟨k + 1, by omega, by go_num, hd2⟩
        case measure => simp [intOf]; omega
      obtain rfl : x1 = x3 := by simpa using hxx
      have hne : (x1 != x1) = false := by simp
      clear hxx
      have HCA : Hid (∀ w', Below wr.heap.size wr w' → Calls Try.prog 57 #[.slice a1 m.length c1, .slice Aa J.length Ac, .slice a5 r.length c5] w' (fun e v => e = .returned (.bool x1) ∧ Below wr.heap.size wr v)) := fun w' hb => i_MatchesB hb hm (by omega) A.ri (by omega) hr (by omega) (by omega) (by omega) (by omega) H1.out
      have HCP : Hid (∀ w', Below wr.heap.size wr w' → Calls Try.prog 57 #[.slice a1 m.length c1, .slice a2 p.length c2, .slice a5 r.length c5] w' (fun e v => e = .returned (.bool true) ∧ Below wr.heap.size wr v)) := fun w' hb => i_MatchesB hb hm (by omega) hp (by omega) hr (by omega) (by omega) (by omega) (by omega) H2.out
      have HCT : Hid (∀ w', Below wr.heap.size wr w' → Calls Try.prog 57 #[.slice a1 m.length c1, .slice a3 t.length c3, .slice a5 r.length c5] w' (fun e v => e = .returned (.bool x1) ∧ Below wr.heap.size wr v)) := fun w' hb => i_MatchesB hb hm (by omega) ht (by omega) hr (by omega) (by omega) (by omega) (by omega) H3.out
      clear hm hp ht A O hr H1 H2 H3
      have HS : Hid (∀ w', Below wr.heap.size wr w' → w'.cell? ⟨b, o + k, none⟩ = some (.slice a5 r.length c5)) := fun w' hb => (hb.cell (p := ⟨b, o + k, none⟩) hlb).trans hcell
      clear hcell hne
      cases x1
      · go_wp2_with fail
        refine wp_region_new (by rfl) (by kernel_rfl) ?_
        (refine wpQuiet_step (fun K hK => ?_); go_simp; first | refine hK _ ?_ | refine ⟨_, fun _ _ => rfl, hK _ ?_⟩; clear hK K)
        (refine wpQuiet_step (fun K hK => ?_); go_simp; first | refine hK _ ?_ | refine ⟨_, fun _ _ => rfl, hK _ ?_⟩; clear hK K)
        (refine wpQuiet_step (fun K hK => ?_); go_simp; first | refine hK _ ?_ | refine ⟨_, fun _ _ => rfl, hK _ ?_⟩; clear hK K)
        (refine wpQuiet_step (fun K hK => ?_); go_simp; first | refine hK _ ?_ | refine ⟨_, fun _ _ => rfl, hK _ ?_⟩; clear hK K)
        (refine wpQuiet_step (fun K hK => ?_); go_simp; first | refine hK _ ?_ | refine ⟨_, fun _ _ => rfl, hK _ ?_⟩; clear hK K)
        (refine wpQuiet_step (fun K hK => ?_); go_simp; refine ⟨.slice a5 r.length c5, fun wq hq => ?_, hK _ ?_⟩; (have hc := HS.out wq hq; simp [hc, Result.andThen]); clear hK K)
        (refine wpQuiet_step (fun K hK => ?_); go_simp; refine ⟨.bool false, fun wq hq => (HCA.out wq hq).mono ?_, hK _ ?_⟩; (rintro e v ⟨rfl, hv⟩; exact ⟨rfl, hv⟩); clear hK K)
        (refine wpQuiet_step (fun K hK => ?_); go_simp; first | refine hK _ ?_ | refine ⟨_, fun _ _ => rfl, hK _ ?_⟩; clear hK K)
        (refine wpQuiet_step (fun K hK => ?_); go_simp; first | refine hK _ ?_ | refine ⟨_, fun _ _ => rfl, hK _ ?_⟩; clear hK K)
        (refine wpQuiet_step (fun K hK => ?_); go_simp; first | refine hK _ ?_ | refine ⟨_, fun _ _ => rfl, hK _ ?_⟩; clear hK K)
        (refine wpQuiet_step (fun K hK => ?_); go_simp; first | refine hK _ ?_ | refine ⟨_, fun _ _ => rfl, hK _ ?_⟩; clear hK K)
        (refine wpQuiet_step (fun K hK => ?_); go_simp; first | refine hK _ ?_ | refine ⟨_, fun _ _ => rfl, hK _ ?_⟩; clear hK K)
        (refine wpQuiet_step (fun K hK => ?_); go_simp; refine ⟨.slice a5 r.length c5, fun wq hq => ?_, hK _ ?_⟩; (have hc := HS.out wq hq; simp [hc, Result.andThen]); clear hK K)
        (refine wpQuiet_step (fun K hK => ?_); go_simp; refine ⟨.bool true, fun wq hq => (HCP.out wq hq).mono ?_, hK _ ?_⟩; (rintro e v ⟨rfl, hv⟩; exact ⟨rfl, hv⟩); clear hK K)
        (refine wpQuiet_step (fun K hK => ?_); go_simp; first | refine hK _ ?_ | refine ⟨_, fun _ _ => rfl, hK _ ?_⟩; clear hK K)
        (refine wpQuiet_step (fun K hK => ?_); go_simp; first | refine hK _ ?_ | refine ⟨_, fun _ _ => rfl, hK _ ?_⟩; clear hK K)
        (refine wpQuiet_step (fun K hK => ?_); go_simp; first | refine hK _ ?_ | refine ⟨_, fun _ _ => rfl, hK _ ?_⟩; clear hK K)
        (refine wpQuiet_step (fun K hK => ?_); go_simp; first | refine hK _ ?_ | refine ⟨_, fun _ _ => rfl, hK _ ?_⟩; clear hK K)
        (refine wpQuiet_step (fun K hK => ?_); go_simp; first | refine hK _ ?_ | refine ⟨_, fun _ _ => rfl, hK _ ?_⟩; clear hK K)
        (refine wpQuiet_step (fun K hK => ?_); go_simp; first | refine hK _ ?_ | refine ⟨_, fun _ _ => rfl, hK _ ?_⟩; clear hK K)
        (refine wpQuiet_step (fun K hK => ?_); go_simp; refine ⟨.slice a5 r.length c5, fun wq hq => ?_, hK _ ?_⟩; (have hc := HS.out wq hq; simp [hc, Result.andThen]); clear hK K)
        (refine wpQuiet_step (fun K hK => ?_); go_simp; refine ⟨.bool false, fun wq hq => (HCT.out wq hq).mono ?_, hK _ ?_⟩; (rintro e v ⟨rfl, hv⟩; exact ⟨rfl, hv⟩); clear hK K)
        (refine wpQuiet_step (fun K hK => ?_); go_simp; first | refine hK _ ?_ | refine ⟨_, fun _ _ => rfl, hK _ ?_⟩; clear hK K)
        (refine wpQuiet_step (fun K hK => ?_); go_simp; first | refine hK _ ?_ | refine ⟨_, fun _ _ => rfl, hK _ ?_⟩; clear hK K)
        refine wpQuiet_nil ?_
        intro wz hbz
        clear BB
        have hd2 := hd.trans (hbz.mono (by omega))
        go_wp2
        go_roundw
        case rel => exact ⟨k + 1, by omega, by go_num, hd2⟩
        case measure => simp [intOf]; omega
      · go_wp2_with fail
        refine wp_region_new (by rfl) (by kernel_rfl) ?_
        (refine wpQuiet_step (fun K hK => ?_); go_simp; first | refine hK _ ?_ | refine ⟨_, fun _ _ => rfl, hK _ ?_⟩; clear hK K)
        (refine wpQuiet_step (fun K hK => ?_); go_simp; first | refine hK _ ?_ | refine ⟨_, fun _ _ => rfl, hK _ ?_⟩; clear hK K)
        (refine wpQuiet_step (fun K hK => ?_); go_simp; first | refine hK _ ?_ | refine ⟨_, fun _ _ => rfl, hK _ ?_⟩; clear hK K)
        (refine wpQuiet_step (fun K hK => ?_); go_simp; first | refine hK _ ?_ | refine ⟨_, fun _ _ => rfl, hK _ ?_⟩; clear hK K)
        (refine wpQuiet_step (fun K hK => ?_); go_simp; first | refine hK _ ?_ | refine ⟨_, fun _ _ => rfl, hK _ ?_⟩; clear hK K)
        (refine wpQuiet_step (fun K hK => ?_); go_simp; refine ⟨.slice a5 r.length c5, fun wq hq => ?_, hK _ ?_⟩; (have hc := HS.out wq hq; simp [hc, Result.andThen]); clear hK K)
        (refine wpQuiet_step (fun K hK => ?_); go_simp; refine ⟨.bool true, fun wq hq => (HCA.out wq hq).mono ?_, hK _ ?_⟩; (rintro e v ⟨rfl, hv⟩; exact ⟨rfl, hv⟩); clear hK K)
        (refine wpQuiet_step (fun K hK => ?_); go_simp; first | refine hK _ ?_ | refine ⟨_, fun _ _ => rfl, hK _ ?_⟩; clear hK K)
        (refine wpQuiet_step (fun K hK => ?_); go_simp; first | refine hK _ ?_ | refine ⟨_, fun _ _ => rfl, hK _ ?_⟩; clear hK K)
        (refine wpQuiet_step (fun K hK => ?_); go_simp; first | refine hK _ ?_ | refine ⟨_, fun _ _ => rfl, hK _ ?_⟩; clear hK K)
        (refine wpQuiet_step (fun K hK => ?_); go_simp; first | refine hK _ ?_ | refine ⟨_, fun _ _ => rfl, hK _ ?_⟩; clear hK K)
        (refine wpQuiet_step (fun K hK => ?_); go_simp; first | refine hK _ ?_ | refine ⟨_, fun _ _ => rfl, hK _ ?_⟩; clear hK K)
        (refine wpQuiet_step (fun K hK => ?_); go_simp; refine ⟨.slice a5 r.length c5, fun wq hq => ?_, hK _ ?_⟩; (have hc := HS.out wq hq; simp [hc, Result.andThen]); clear hK K)
        (refine wpQuiet_step (fun K hK => ?_); go_simp; refine ⟨.bool true, fun wq hq => (HCP.out wq hq).mono ?_, hK _ ?_⟩; (rintro e v ⟨rfl, hv⟩; exact ⟨rfl, hv⟩); clear hK K)
        (refine wpQuiet_step (fun K hK => ?_); go_simp; first | refine hK _ ?_ | refine ⟨_, fun _ _ => rfl, hK _ ?_⟩; clear hK K)
        (refine wpQuiet_step (fun K hK => ?_); go_simp; first | refine hK _ ?_ | refine ⟨_, fun _ _ => rfl, hK _ ?_⟩; clear hK K)
        (refine wpQuiet_step (fun K hK => ?_); go_simp; first | refine hK _ ?_ | refine ⟨_, fun _ _ => rfl, hK _ ?_⟩; clear hK K)
        (refine wpQuiet_step (fun K hK => ?_); go_simp; first | refine hK _ ?_ | refine ⟨_, fun _ _ => rfl, hK _ ?_⟩; clear hK K)
        (refine wpQuiet_step (fun K hK => ?_); go_simp; first | refine hK _ ?_ | refine ⟨_, fun _ _ => rfl, hK _ ?_⟩; clear hK K)
        (refine wpQuiet_step (fun K hK => ?_); go_simp; first | refine hK _ ?_ | refine ⟨_, fun _ _ => rfl, hK _ ?_⟩; clear hK K)
        (refine wpQuiet_step (fun K hK => ?_); go_simp; refine ⟨.slice a5 r.length c5, fun wq hq => ?_, hK _ ?_⟩; (have hc := HS.out wq hq; simp [hc, Result.andThen]); clear hK K)
        (refine wpQuiet_step (fun K hK => ?_); go_simp; refine ⟨.bool true, fun wq hq => (HCT.out wq hq).mono ?_, hK _ ?_⟩; (rintro e v ⟨rfl, hv⟩; exact ⟨rfl, hv⟩); clear hK K)
        (refine wpQuiet_step (fun K hK => ?_); go_simp; first | refine hK _ ?_ | refine ⟨_, fun _ _ => rfl, hK _ ?_⟩; clear hK K)
        (refine wpQuiet_step (fun K hK => ?_); go_simp; first | refine hK _ ?_ | refine ⟨_, fun _ _ => rfl, hK _ ?_⟩; clear hK K)
        refine wpQuiet_nil ?_
        intro wz hbz
        clear BB
        have hd2 := hd.trans (hbz.mono (by omega))
        go_wp2
        go_roundw
        case rel => exact ⟨k + 1, by omega, by go_num, hd2⟩
        case measure => simp [intOf]; omega
    · skip
      go_wp2_with fail
      refine (l_equalInts O.ri A.ri (by omega) (by omega)).mono ?_
      rintro e v4 ⟨rfl, d4⟩
      rw [heqJ]
      go_wp2
      go_ret
      exact ⟨rfl, BB.trans (Dr.below d4 _)⟩

end Go.Proofs.Ytehoagbpgahopaa
