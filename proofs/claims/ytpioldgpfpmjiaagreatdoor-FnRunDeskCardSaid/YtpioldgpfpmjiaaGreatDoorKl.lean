/- Walks: ParseSuite by the document's reference. -/
import Derived.Test.YtpioldgpfpmjiaaGreatDoorKk
import Derived.Test.YtpioldgpfpmjiaaGreatDoorUx
import Derived.Test.YtpioldgpfpmjiaaGreatDoorWk
import Derived.Test.YtpioldgpfpmjiaaGreatDoorOwnL
import Derived.Test.YtpioldgpfpmjiaaGreatDoorWq
namespace Go.Proofs.YtpioldgpfpmjiaaGreatDoor
open Go.RowKit

theorem OwnSt.made (w : World) (B : Nat) (hB : B ≤ w.heap.size) : OwnSt (w.alloc (.cells #[] 9)) B (.slice (some ⟨w.heap.size, 0, none⟩) 0 0) [] :=
  World.ownsRow_made w #[] 0 hB (by simp [maxLen]) rfl
theorem ext_mid {s : ByteArray} {f k : Nat} (_h : f ≤ k) : (s.extract f k).data.toList = (s.data.toList.take k).drop f := by
  rw [Lib.extract_data, List.drop_take]
theorem at_byte {s : ByteArray} {k : Nat} (h : k < s.size) : s.data.toList.drop k = s[k] :: s.data.toList.drop (k + 1) ∧ s.data.toList.take (k + 1) = s.data.toList.take k ++ [s[k]] := by
  have h' : k < s.data.toList.length := by simpa using h
  have e : s.data.toList[k]? = some s[k] := by rw [List.getElem?_eq_getElem h']; rfl
  exact ⟨(List.drop_eq_getElem_cons h').trans rfl, take_snoc e⟩
theorem pcs_eq {c : UInt8} {s : ByteArray} {out : List ByteArray} (h : out.map (·.data.toList) = spG c s.data.toList []) : out = pcs c s := by
  unfold pcs
  rw [← h, List.map_map]
  exact (List.map_id _).symm.trans (List.map_congr_left fun _ _ => rfl)

theorem sp_hit {c : UInt8} {s : ByteArray} {out : List ByteArray} {f k : Nat} {R : List (List UInt8)} (hf : f ≤ k) (hlt : k < s.size) (hc : s[k] = c) (h : out.map (·.data.toList) ++ spG c (s.data.toList.drop k) ((s.data.toList.take k).drop f) = R) :
    (out ++ [s.extract f k]).map (·.data.toList) ++ spG c (s.data.toList.drop (k + 1)) ((s.data.toList.take (k + 1)).drop (k + 1)) = R := by
  have e : (s.data.toList.take (k + 1)).drop (k + 1) = [] := List.drop_eq_nil_of_le (List.length_take_le _ _)
  rw [← h, (at_byte hlt).1, hc, spG_hit, e, List.map_append, List.append_assoc, List.map_cons, List.map_nil, ext_mid hf]
  rfl
theorem sp_miss {c : UInt8} {s : ByteArray} {out : List ByteArray} {f k : Nat} {R : List (List UInt8)} (hf : f ≤ k) (hlt : k < s.size) (hc : s[k] ≠ c) (h : out.map (·.data.toList) ++ spG c (s.data.toList.drop k) ((s.data.toList.take k).drop f) = R) :
    out.map (·.data.toList) ++ spG c (s.data.toList.drop (k + 1)) ((s.data.toList.take (k + 1)).drop f) = R := by
  have hl : f ≤ (s.data.toList.take k).length := by rw [List.length_take, show s.data.toList.length = s.size by simp]; omega
  rw [← h, (at_byte hlt).1, spG_miss hc, (at_byte hlt).2, List.drop_append_of_le_length hl]
theorem sp_end {c : UInt8} {s : ByteArray} {out : List ByteArray} {f : Nat} (hf : f ≤ s.size) (h : out.map (·.data.toList) ++ spG c (s.data.toList.drop s.size) ((s.data.toList.take s.size).drop f) = spG c s.data.toList []) : out ++ [s.extract f s.size] = pcs c s := by
  have e : s.data.toList.drop s.size = [] := List.drop_eq_nil_of_le (by simp)
  refine pcs_eq ?_
  rw [← h, e, List.map_append, List.map_cons, List.map_nil, ext_mid hf]
  rfl

set_option maxRecDepth 100000 in
set_option maxHeartbeats 4000000 in
theorem s_splitAt {s : ByteArray} {c : UInt8} {y : Int} {w : World} (hs : s.size ≤ 1048577) (hy : (c.toNat : Int) = y) :
    Calls Tryz.prog 26 #[.string s, .int .u8 y] w (fun e w' => ∃ v, e = .returned v ∧ v ≠ .slice none 0 0 ∧ OwnSt w' w.heap.size v (pcs c s) ∧ Below w.heap.size w w') := by
  have hst := OwnSt.made w w.heap.size (Nat.le_refl _)
  have hbA := (Below.refl w.heap.size w).alloc (Nat.le_refl _) (.cells #[] 9)
  have HY := Lib.hid hy
  have hI0 : Hid (([] : List ByteArray).map (·.data.toList) ++ spG c (s.data.toList.drop 0) ((s.data.toList.take 0).drop 0) = spG c s.data.toList []) := by show _ = _; simp
  clear hy
  go_enter Tryz.func26, Tryz.ntmps26
  go_wp2
  go_loopw [5, 6, 7] (fun v fv iv wr => ∃ (k f : Nat) (out : List ByteArray), k ≤ s.size ∧ f ≤ k ∧ out.length ≤ f ∧ iv = .int .i64 k ∧ fv = .int .i64 f ∧ OwnSt wr w.heap.size v out ∧ Below w.heap.size w wr ∧ Hid (out.map (·.data.toList) ++ spG c (s.data.toList.drop k) ((s.data.toList.take k).drop f) = spG c s.data.toList [])) (fun _ _ iv _ => s.size - (intOf iv).toNat)
  case atStart => exact ⟨0, 0, [], Nat.zero_le _, Nat.le_refl _, Nat.le_refl _, rfl, rfl, hst, hbA, hI0⟩
  case round =>
    clear hst hbA hI0
    obtain ⟨k, f, out, hk, hf, hol, rfl, rfl, hown, hB, hI⟩ := hrel
    have hz := hB.size
    by_cases hlt : k < s.size
    · have hat := at_byte hlt
      have hb := UInt8.toNat_lt s[k]
      by_cases hc : s[k] = c
      · have hc1 : ((s[k].toNat : Int) == y) = true := by rw [hc, HY.out]; exact beq_self_eq_true _
        have hI2 : Hid ((out ++ [s.extract f k]).map (·.data.toList) ++ spG c (s.data.toList.drop (k + 1)) ((s.data.toList.take (k + 1)).drop (k + 1)) = spG c s.data.toList []) := by
          exact sp_hit hf hlt hc hI.out
        clear hc
        go_wp2_with (first
          | (at_builtin; refine wpList_appSt rfl (.tmp 20) (.tmp 25) rfl w.heap.size _ out rfl hown (s.extract f k) rfl (by omega) (by omega) ?_; intro v2 w2 hown2 hb2 _)
          | go_in)
        have hB2 := hB.trans hb2
        clear hown hb2 hB
        go_roundw
        case rel => exact ⟨k + 1, k + 1, out ++ [s.extract f k], by omega, Nat.le_refl _, by simp; omega, by go_num, by go_num, hown2, hB2, hI2⟩
        case measure => simp [intOf]; omega
      · have hc1 : ((s[k].toNat : Int) == y) = false := by
          rw [beq_eq_false_iff_ne, ← HY.out]; intro e
          exact hc (UInt8.toNat_inj.1 (by omega))
        have hI2 : Hid (out.map (·.data.toList) ++ spG c (s.data.toList.drop (k + 1)) ((s.data.toList.take (k + 1)).drop f) = spG c s.data.toList []) := by
          exact sp_miss hf hlt hc hI.out
        clear hc
        go_wp2
        go_roundw
        case rel => exact ⟨k + 1, f, out, by omega, by omega, hol, by go_num, rfl, hown, hB, hI2⟩
        case measure => simp [intOf]; omega
    · have hks : k = s.size := by omega
      subst hks
      have hI2 : Hid (out ++ [s.extract f s.size] = pcs c s) := by
        exact sp_end hf hI.out
      go_wp2_with (first
        | (at_builtin; refine wpList_appSt rfl (.tmp 29) (.tmp 33) rfl w.heap.size _ out rfl hown (s.extract f s.size) rfl (by omega) (by omega) ?_; intro v2 w2 hown2 hb2 hn2)
        | go_in)
      have hB2 := hB.trans hb2
      rw [hI2.out] at hown2
      clear hown hb2 hB
      go_wp2
      go_ret
      exact ⟨_, rfl, hn2.out, hown2, hB2⟩

/-- the rows of a text's pieces -/
def psR (s : ByteArray) : List (List Int) := if s.size = 0 then [] else (pcs 44 s).map rdL
def psB (m : List Int) (s : ByteArray) : Bool := okM m && okS m (psR s)
def psL (m : List Int) (s : ByteArray) : List (List Int) := if psB m s then psR s else []
theorem ps_no {m : List Int} {s : ByteArray} (h : psB m s = false) : psL m s = [] ∧ psB m s = false := by unfold psL; rw [h]; exact ⟨rfl, rfl⟩
theorem ps_yes {m : List Int} {s : ByteArray} (h : psB m s = true) : psL m s = psR s ∧ psB m s = true := by unfold psL; rw [h]; exact ⟨rfl, rfl⟩
theorem psR_len (s : ByteArray) : (psR s).length ≤ s.size + 1 := by
  unfold psR
  split
  · simp
  · rw [List.length_map]; exact pcs_len _ _
theorem psR_row {s : ByteArray} {r : List Int} (h : r ∈ psR s) : r.length ≤ s.size := by
  unfold psR at h
  split at h
  · simp at h
  · obtain ⟨p, hp, rfl⟩ := List.mem_map.1 h
    rw [rdL_len]; exact pcs_size hp
theorem psL_row {m : List Int} {s : ByteArray} : ∀ r ∈ psL m s, r.length ≤ 5 := by
  intro r hr
  unfold psL at hr
  split at hr
  · rename_i hb
    unfold psB at hb
    rw [Bool.and_eq_true] at hb
    have h1 := okW_len (okS_all hb.2 hr)
    have h2 := okM_len hb.1
    omega
  · simp at hr
theorem psL_len {m : List Int} {s : ByteArray} : (psL m s).length ≤ 20 := by
  unfold psL
  split
  · rename_i hb
    unfold psB at hb
    rw [Bool.and_eq_true] at hb
    exact okS_len hb.2
  · simp
theorem psL_sum {m : List Int} {s : ByteArray} : sumL (psL m s) ≤ 100 := by
  have h1 := sumL_le (n := 5) (mm := psL m s) psL_row
  have h2 := @psL_len m s
  omega
theorem psL_gr {m : List Int} {s : ByteArray} : True ∧ ∀ r ∈ psL m s, r.length ≤ 4611686018427387904 := ⟨trivial, fun r hr => by have := psL_row r hr; omega⟩
theorem size_ne {s : ByteArray} (h : s.size ≠ 0) : s ≠ ⟨#[]⟩ := by intro e; rw [e] at h; exact h rfl
theorem size_eq0 {s : ByteArray} (h : s.size = 0) : s = ⟨#[]⟩ := by
  obtain ⟨⟨l⟩⟩ := s
  have : l = [] := List.eq_nil_of_length_eq_zero h
  subst this; rfl

theorem sizeSt (w : World) : (sizeOf 9).run Tryz.prog w = .ok 1 w := by kernel_rfl
theorem idxSt {a : Option Addr} {len k b o : Nat} (ha : a = some ⟨b, o, none⟩) (hk : k < len) (cap : Nat) (wx : World) :
    (Instr.indexAt 22 (.slice a len cap) (.int .i64 (k : Int))).run Tryz.prog wx = .ok (.pointer (some ⟨b, o + k, none⟩)) wx := idx_run undSt sizeSt ha hk cap wx
theorem strNe {s : ByteArray} (h : s.size ≠ 0) : s.toList.isEmpty = false := by
  cases he : s.toList.isEmpty
  · rfl
  have e := List.isEmpty_iff.1 he
  rw [Lib.toList_data] at e
  have h2 := congrArg List.length e
  have h3 : s.data.toList.length = s.size := by simp
  rw [h3] at h2
  exact (h h2).elim
theorem psR_cons {s : ByteArray} (h : s.size ≠ 0) : psR s = (pcs 44 s).map rdL := by unfold psR; rw [if_neg h]

set_option maxRecDepth 100000 in
set_option maxHeartbeats 4000000 in
theorem s_parseSuite {m : List Int} {s : ByteArray} {a : Option Addr} {c lo hi : Nat} {w : World} (hm : RI w lo hi a m) (hlm : m.length ≤ 9223372036854775807) (hs : s.size ≤ 1048576) (hB : hi ≤ w.heap.size) :
    Calls Tryz.prog 28 #[.slice a m.length c, .string s] w (NewIIB w (psR s) (psB m s)) := by
  have hst := OwnLL.made w w.heap.size (Nat.le_refl _)
  have hbA := (Below.refl w.heap.size w).alloc (Nat.le_refl _) (.cells #[] 45)
  by_cases h0 : s.size = 0
  · obtain rfl := size_eq0 h0
    have hR : psR ⟨#[]⟩ = [] := rfl
    have hmA := hm.below hbA (by omega)
    obtain ⟨B, hBB⟩ : ∃ B, psB m ⟨#[]⟩ = B := ⟨_, rfl⟩
    have hB2 : (okM m && okS m []) = B := hBB
    rw [hR, hBB]
    have HB := Lib.hid hB2
    clear hR hBB hB2 h0 hs
    cases hok : okM m
    · have HOK := Lib.hid hok
      rw [hok] at HB
      have HF : Hid (B = false) := HB.out.symm.trans (by simp)
      rw [HF.out]
      clear hok HB
      go_enter Tryz.func28, Tryz.ntmps28
      go_wp2_with fail
      refine (s_validModel hmA hlm).mono ?_
      rintro e w1 ⟨rfl, d1⟩
      rw [HOK.out]
      go_wp2
      go_ret2
      have hb := hbA.trans ((Dr.below d1 _).mono hbA.size)
      obtain ⟨_, _, e1, hO⟩ := (hst.below (Dr.below d1 _)).slice
      cases e1
      exact ⟨_, _, rfl, hO, hb⟩
    · have HOK := Lib.hid hok
      rw [hok, Bool.true_and] at HB
      clear hok
      go_enter Tryz.func28, Tryz.ntmps28
      go_wp2_with fail
      refine (s_validModel hmA hlm).mono ?_
      rintro e w1 ⟨rfl, d1⟩
      have hb := hbA.trans ((Dr.below d1 _).mono hbA.size)
      have hm1 := hmA.dr d1
      obtain ⟨_, _, e1, hO⟩ := (hst.below (Dr.below d1 _)).slice
      cases e1
      rw [HOK.out]
      clear hst hmA hbA
      go_wp2_with fail
      refine (s_validSuite (t := []) hm1 (RII.nil _ 0 0 _) HOK.out (by simp) (by simp)).mono ?_
      rintro e w2 ⟨rfl, d2⟩
      have hb2 := hb.trans ((Dr.below d2 _).mono hb.size)
      rw [HB.out]
      go_wp2
      go_ret2
      exact ⟨_, _, rfl, (hO.below (Dr.below d2 _) (Nat.le_refl _)).wide (Nat.le_refl _) (Dr.below d2 0).size, hb2⟩
  · have hne := strNe h0
    have HR := Lib.hid (psR_cons h0)
    have HL : Hid (∀ p ∈ pcs 44 s, p.size ≤ 1048576) := fun p hp => by have := pcs_size hp; omega
    have hpl := pcs_len 44 s
    obtain ⟨X, hX⟩ : ∃ X, pcs 44 s = X := ⟨_, rfl⟩
    rw [hX] at HR HL hpl
    have HX := Lib.hid hX
    obtain ⟨B, hBB⟩ : ∃ B, psB m s = B := ⟨_, rfl⟩
    have hB2 : (okM m && okS m (X.map rdL)) = B := by rw [← hBB]; unfold psB; rw [HR.out]
    rw [HR.out, hBB]
    have HB := Lib.hid hB2
    clear hBB hB2 hX
    go_enter Tryz.func28, Tryz.ntmps28
    go_wp2_with fail
    refine (s_splitAt (c := 44) (by omega) rfl).mono ?_
    rintro e w1 ⟨v1, rfl, hv1, ho1, hb1⟩
    rw [HX.out] at ho1
    have hz1 := hb1.size
    simp only [World.size_alloc] at hz1
    have hlt1 := World.ownsRow.lt ho1
    obtain ⟨g, gc, rfl, hg, hgc, hcs⟩ := ho1.text hv1
    have hgl : w.heap.size + 1 ≤ g := by have := (hlt1 g rfl).1; simpa using this
    have hst1 := hst.below hb1
    have hbw := hbA.trans (hb1.mono (by simp))
    have HCS := Lib.hid hcs
    have hoff0 : Hid (∀ h, (Value.slice (some ⟨w.heap.size, 0, none⟩) 0 0).ownBlock = some h → h ≠ g) := fun h e e2 => by simp [Value.ownBlock] at e; omega
    have hne2 := hne
    clear hst hb1 hbA ho1 hv1 hcs hne hlt1
    go_wp2
    clear hne2
    go_loopw [6, 8] (fun v iv wr => ∃ k : Nat, k ≤ X.length ∧ iv = .int .i64 k ∧ OwnLL wr w.heap.size v ((X.take k).map rdL) ∧ Below w.heap.size w wr ∧ Hid (wr.heap[g]? = w1.heap[g]?) ∧ Hid (∀ h, v.ownBlock = some h → h ≠ g) ∧ w1.heap.size ≤ wr.heap.size) (fun _ iv _ => X.length - (intOf iv).toNat)
    case atStart => exact ⟨0, Nat.zero_le _, rfl, hst1, hbw, rfl, hoff0, Nat.le_refl _⟩
    case round =>
      clear hst1 hbw hoff0
      obtain ⟨k, hk, rfl, hown, hbw, hgk, hoff, hzr⟩ := hrel
      have hz := hbw.size
      by_cases hlt : k < X.length
      · obtain ⟨p, hp⟩ := at_of_lt hlt
        have hcell := (World.cell?_of_block (w := w1) (w' := wr) (a := ⟨g, 0 + k, none⟩) hgk.out).trans (HCS.out k p hp)
        have hidx := idxSt (a := some ⟨g, 0, none⟩) rfl hlt gc
        simp only [Nat.zero_add] at hidx hcell
        have hps := HL.out p (List.mem_of_getElem? hp)
        have hpl2 : ((X.take k).map rdL).length ≤ 1099511627776 := by rw [List.length_map, List.length_take]; omega
        have HST : Hid ((X.take k).map rdL ++ [rdL p] = (X.take (k + 1)).map rdL) := by show _ = _; rw [take_snoc hp, List.map_append]; rfl
        obtain ⟨P, hP⟩ : ∃ P, (X.take k).map rdL = P := ⟨_, rfl⟩
        rw [hP] at hown HST hpl2
        clear hp hP
        go_wp2_with fail
        refine (s_readDigits hps).mono ?_
        rintro e w2 ⟨ra, rc, rfl, h2, hb2⟩
        have hz2 := hb2.size
        have hO := OII.one (t := 45) h2 hz2 (Nat.le_refl _)
        have hb3 := hb2.alloc hz2 (.cells #[.slice ra (rdL p).length rc] 45)
        obtain ⟨A3, C3, G3, hf3, hc3⟩ := Fam.ofOII hO
        have hf3' := hf3.wide (Nat.le_refl _) (show w2.heap.size + 1 ≤ (w2.alloc (.cells #[.slice ra (rdL p).length rc] 45)).heap.size by simp)
        clear hcell h2 hO hf3
        go_wp2_with (first
          | (at_builtin; refine wpList_appLLg (W0 := wr) rfl (.tmp 20) (.tmp 26) rfl w.heap.size _ P [rdL p] rfl hown hb3 (by omega) ⟨w2.heap.size, 0, none⟩ 1 1 rfl rfl A3 C3 G3 hf3' hc3 hpl2 (by simp) ?_; intro v4 w4 hown4 hb4 _ hg4 ho4)
          | go_in)
        rw [HST.out] at hown4
        have hbw4 := (hbw.trans (hb3.mono hz)).trans hb4
        have hz3 := hb3.size
        have hz4 := hb4.size
        have hgk4 : Hid (w4.heap[g]? = w1.heap[g]?) := ((hg4.block g (by omega) (fun e => hoff.out g e.symm rfl)).trans (hb3.block g (by omega))).trans hgk.out
        have hoff4 : Hid (∀ h, v4.ownBlock = some h → h ≠ g) := fun h e e2 => by
          rcases ho4 with ho4 | ho4
          · rw [ho4] at e; exact hoff.out h e e2
          · rw [ho4] at e; cases e; omega
        clear hown hb3 hb4 hf3' hc3 hbw hg4 ho4 hgk hoff
        go_roundw
        case rel => exact ⟨k + 1, by omega, by go_num, hown4, hbw4, hgk4, hoff4, by omega⟩
        case measure => simp [intOf]; omega
      · have HT : Hid ((X.take k).map rdL = X.map rdL) := by show _ = _; rw [List.take_of_length_le (by omega)]
        rw [HT.out] at hown
        have hXL : (X.map rdL).length ≤ 9223372036854775807 := by rw [List.length_map]; omega
        have HG : Hid (∀ r ∈ X.map rdL, r.length ≤ 9223372036854775807) := fun r hr => by
          obtain ⟨p, hp, rfl⟩ := List.mem_map.1 hr
          rw [rdL_len]; have := HL.out p hp; omega
        obtain ⟨R, hR⟩ : ∃ R, X.map rdL = R := ⟨_, rfl⟩
        rw [hR] at hown HG hXL HB
        have HRr := Lib.hid hR
        obtain ⟨oa, oc, e1, hO⟩ := hown.slice
        subst e1
        have hmr := hm.below hbw (by omega)
        clear hR hown
        cases hok : okM m
        · have HOK := Lib.hid hok
          rw [hok] at HB
          have HF : Hid (B = false) := HB.out.symm.trans (by simp)
          clear hok HB
          go_wp2_with fail
          refine (s_validModel hmr hlm).mono ?_
          rintro e w5 ⟨rfl, d5⟩
          rw [HOK.out]
          go_wp2
          go_ret2
          rw [HRr.out, HF.out]
          exact ⟨_, _, rfl, (hO.below (Dr.below d5 _) (Nat.le_refl _)).wide (Nat.le_refl _) (Dr.below d5 0).size, hbw.trans ((Dr.below d5 _).mono hz)⟩
        · have HOK := Lib.hid hok
          rw [hok, Bool.true_and] at HB
          clear hok
          go_wp2_with fail
          refine (s_validModel hmr hlm).mono ?_
          rintro e w5 ⟨rfl, d5⟩
          have hO5 := (hO.below (Dr.below d5 _) (Nat.le_refl _)).wide (Nat.le_refl _) (Dr.below d5 0).size
          have hb5 := hbw.trans ((Dr.below d5 _).mono hz)
          have hm5 := hmr.dr d5
          rw [HOK.out]
          clear hO hbw hmr d5
          go_wp2_with fail
          refine (s_validSuite hm5 hO5.oii.rii HOK.out hXL HG.out).mono ?_
          rintro e w6 ⟨rfl, d6⟩
          rw [HB.out]
          go_wp2
          go_ret2
          rw [HRr.out]
          exact ⟨_, _, rfl, (hO5.below (Dr.below d6 _) (Nat.le_refl _)).wide (Nat.le_refl _) (Dr.below d6 0).size, hb5.trans ((Dr.below d6 _).mono hb5.size)⟩

/- Walks: ParseSuite of the program. -/
open Go.RowKit

theorem OwnLL.nilK (w : World) (B : Nat) : OwnLL w B (.slice none 0 0) [] :=
  ⟨[], fun _ => none, fun _ => 0, fun _ => 0, World.ownsRow_nil _ _ _ _, by simp, Fam.nil _ _ _ _ _, by simp⟩
theorem okT_no {m r : List Int} (h : okP m r = false) : okT m r = false := by
  cases ht : okT m r
  · rfl
  · rw [(okT_iff.1 ht).1] at h; cases h
theorem psB_row {m : List Int} {s p : ByteArray} {k : Nat} (h0 : s.size ≠ 0) (hp : (pcs 44 s)[k]? = some p) (h : okP m (rdL p) = false) : psB m s = false := by
  unfold psB
  rw [psR_cons h0, okS_fails (k := k) (r := rdL p) (by rw [List.getElem?_map, hp]; rfl) (okT_no h), Bool.and_false]

set_option maxRecDepth 100000 in
set_option maxHeartbeats 4000000 in
theorem i_ParseSuite {m : List Int} {s : ByteArray} {a : Option Addr} {c lo hi : Nat} {w : World} (hm : RI w lo hi a m) (hlm : m.length ≤ 9223372036854775807) (hs : s.size ≤ 1048576) (hB : hi ≤ w.heap.size) :
    Calls Tryz.prog 63 #[.slice a m.length c, .string s] w (NewIIB w (psL m s) (psB m s)) := by
  cases hok : okM m
  · have HN := Lib.hid (ps_no (m := m) (s := s) (by unfold psB; rw [hok]; rfl))
    have HOK := Lib.hid hok; clear hok
    go_enter Tryz.func63, Tryz.ntmps63
    go_wp2_with fail
    refine (i_ValidModel hm hlm).mono ?_
    rintro e w1 ⟨rfl, d1⟩
    rw [HOK.out]
    go_wp2
    go_ret2
    exact NewIIB.none HN.out (Dr.below d1 _)
  have HOK := Lib.hid hok
  by_cases h0 : s.size = 0
  · obtain rfl := size_eq0 h0
    have HN := Lib.hid (ps_yes (m := m) (s := ⟨#[]⟩) (by unfold psB; rw [hok]; rfl))
    clear hok h0 hs
    go_enter Tryz.func63, Tryz.ntmps63
    go_wp2_with fail
    refine (i_ValidModel hm hlm).mono ?_
    rintro e w1 ⟨rfl, d1⟩
    rw [HOK.out]
    go_wp2
    go_ret2
    exact NewIIB.some (l' := []) ⟨HN.out.1.trans rfl, HN.out.2⟩ rfl (OIIc.nil _ _ _ _ _) (Dr.below d1 _)
  clear hok
  have hne := strNe h0
  have HR := Lib.hid (psR_cons h0)
  have HL : Hid (∀ p ∈ pcs 44 s, p.size ≤ 1048576) := fun p hp => by have := pcs_size hp; omega
  have HNO : Hid (∀ k p, (pcs 44 s)[k]? = some p → okP m (rdL p) = false → psB m s = false) := fun k p hp h => psB_row h0 hp h
  have hpl := pcs_len 44 s
  have hsp := fun w => x_Split1 s 44 w (by omega)
  obtain ⟨X, hX⟩ : ∃ X, pcs 44 s = X := ⟨_, rfl⟩
  rw [hX] at HR HL HNO hpl hsp
  have HSP := Lib.hid hsp
  clear hX hsp
  go_enter Tryz.func63, Tryz.ntmps63
  go_wp2_with fail
  refine (i_ValidModel hm hlm).mono ?_
  rintro e w1 ⟨rfl, d1⟩
  rw [HOK.out]
  have hm1 := hm.dr d1
  have hz1 := Dr.le d1
  have hbd := Dr.below d1 w.heap.size
  clear d1 hm
  go_wp2_with fail
  refine (HSP.out w1).mono ?_
  rintro e w2 ⟨rfl, hw2⟩
  have hnew : w2.heap[w1.heap.size]? = some (.cells (X.map Value.string).toArray 9 (0, 0)) := by rw [hw2]; exact heap_alloc_new _ _
  have hb2 : Below w1.heap.size w1 w2 := by rw [hw2]; exact (Below.refl _ w1).alloc (Nat.le_refl _) _
  have hz2 : w2.heap.size = w1.heap.size + 1 := by rw [hw2]; simp
  have HCS : Hid (∀ k p, X[k]? = some p → w2.cell? ⟨w1.heap.size, k, none⟩ = some (.string p)) := fun k p hp => by
    rw [cell_of_row _ _ k _ _ _ hnew]; simp [hp]
  have hbw2 := hbd.trans (hb2.mono (by omega))
  have hm2 := hm1.below hb2 (by omega)
  have hst := OwnLL.nilK w2 w2.heap.size
  have hbr := Below.refl w2.heap.size w2
  clear hw2 hnew hb2 hm1 hbd
  go_wp2
  go_loopw [6, 19] (fun v iv wr => ∃ k : Nat, k ≤ X.length ∧ iv = .int .i64 k ∧ OwnLL wr w2.heap.size v ((X.take k).map rdL) ∧ Below w2.heap.size w2 wr) (fun _ iv _ => X.length - (intOf iv).toNat)
  case atStart => exact ⟨0, Nat.zero_le _, rfl, hst, hbr⟩
  case round =>
    clear hst hbr
    obtain ⟨k, hk, rfl, hown, hbr⟩ := hrel
    have hz := hbr.size
    by_cases hlt : k < X.length
    · obtain ⟨p, hp⟩ := at_of_lt hlt
      have hcell := (hbr.cell (p := ⟨w1.heap.size, k, none⟩) (by show w1.heap.size < _; omega)).trans (HCS.out k p hp)
      have hidx := idxSt (a := some ⟨w1.heap.size, 0, none⟩) rfl hlt X.length
      simp only [Nat.zero_add] at hidx
      have hps := HL.out p (List.mem_of_getElem? hp)
      have hmr := hm2.below hbr (by omega)
      have hpl2 : ((X.take k).map rdL).length ≤ 1099511627776 := by rw [List.length_map, List.length_take]; omega
      cases hop : okP m (rdL p)
      · have HN := Lib.hid (ps_no (HNO.out k p hp hop))
        have HPP := Lib.hid (pp_no (m := m) (s := p) (.inr hop))
        clear hop hp
        go_wp2_with fail
        refine (i_ParsePatternC hmr hlm hps (by omega)).mono ?_
        rintro e w3 ⟨ra, rc, rfl, h3, hb3⟩
        rw [HPP.out.2]
        go_wp2
        go_ret2
        exact NewIIB.none HN.out (hbw2.trans ((hbr.trans (hb3.mono hz)).mono (by omega)))
      · have HPP := Lib.hid (pp_yes (m := m) (s := p) HOK.out hop)
        have HST : Hid ((X.take k).map rdL ++ [rdL p] = (X.take (k + 1)).map rdL) := by show _ = _; rw [take_snoc hp, List.map_append]; rfl
        obtain ⟨P, hP⟩ : ∃ P, (X.take k).map rdL = P := ⟨_, rfl⟩
        rw [hP] at hown HST hpl2
        clear hop hp hP
        go_wp2_with fail
        refine (i_ParsePatternC hmr hlm hps (by omega)).mono ?_
        rintro e w3 ⟨ra, rc, rfl, h3, hb3⟩
        rw [HPP.out.1] at h3
        rw [HPP.out.1, HPP.out.2]
        have hz3 := hb3.size
        have hO := OII.one (t := 45) h3 hz3 (Nat.le_refl _)
        have hb4 := hb3.alloc hz3 (.cells #[.slice ra (rdL p).length rc] 45)
        obtain ⟨A3, C3, G3, hf3, hc3⟩ := Fam.ofOII hO
        have hf3' := hf3.wide (Nat.le_refl _) (show w3.heap.size + 1 ≤ (w3.alloc (.cells #[.slice ra (rdL p).length rc] 45)).heap.size by simp)
        clear hcell h3 hO hf3 hmr
        go_wp2_with (first
          | (at_builtin; refine wpList_appLL (W0 := wr) rfl (.tmp 31) (.tmp 33) rfl w2.heap.size _ P [rdL p] rfl hown hb4 (by omega) ⟨w3.heap.size, 0, none⟩ 1 1 rfl rfl A3 C3 G3 hf3' hc3 hpl2 (by simp) ?_; intro v5 w5 hown5 hb5 _)
          | go_in)
        rw [HST.out] at hown5
        have hbr5 := (hbr.trans (hb4.mono hz)).trans hb5
        clear hown hb3 hb4 hb5 hf3' hc3 hbr
        go_roundw
        case rel => exact ⟨k + 1, by omega, by go_num, hown5, hbr5⟩
        case measure => simp [intOf]; omega
    · have HT : Hid ((X.take k).map rdL = psR s) := by show _ = _; rw [List.take_of_length_le (by omega), HR.out]
      rw [HT.out] at hown
      have hRL := psR_len s
      have HG : Hid (∀ r ∈ psR s, r.length ≤ 9223372036854775807) := fun r hr => by have := psR_row hr; omega
      obtain ⟨oa, oc, e1, hO⟩ := hown.slice
      subst e1
      have hmr := hm2.below hbr (by omega)
      have hbw := hbw2.trans (hbr.mono (by omega))
      clear hown
      cases hb : psB m s
      · have HN := Lib.hid (ps_no hb)
        have HV : Hid ((okM m && okS m (psR s)) = false) := hb
        clear hb
        go_wp2_with fail
        refine (i_ValidSuite hmr hlm hO.oii.rii (by omega) HG.out).mono ?_
        rintro e w5 ⟨rfl, d5⟩
        rw [HV.out]
        go_wp2
        go_ret2
        exact NewIIB.none HN.out (hbw.trans (Dr.below d5 _))
      · have HN := Lib.hid (ps_yes hb)
        have HV : Hid ((okM m && okS m (psR s)) = true) := hb
        clear hb
        go_wp2_with fail
        refine (i_ValidSuite hmr hlm hO.oii.rii (by omega) HG.out).mono ?_
        rintro e w5 ⟨rfl, d5⟩
        rw [HV.out]
        go_wp2
        go_ret2
        exact NewIIB.some HN.out rfl ((hO.below (Dr.below d5 _) (Nat.le_refl _)).wide (by omega) (Dr.below d5 0).size) (hbw.trans (Dr.below d5 _))

end Go.Proofs.YtpioldgpfpmjiaaGreatDoor
