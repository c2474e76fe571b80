/- The law that each line has an answer: what is drawn; the walk. -/
import Derived.Test.YtpioldgpfpmjiaaGreatDoorKq
import Derived.Test.YtpioldgpfpmjiaaGreatDoorKn
namespace Go.Proofs.YtpioldgpfpmjiaaGreatDoor
open Go.RowKit

theorem OwnSt.same {w w' : World} {B : Nat} {v : Value} {l : List ByteArray} (h : OwnSt w B v l) (hb : ∀ g, B ≤ g → g < w.heap.size → w'.heap[g]? = w.heap[g]?) : OwnSt w' B v l := by
  have hlt := World.ownsRow.lt h
  obtain ⟨h1, h2⟩ := h
  refine ⟨h1, ?_⟩
  rcases h2 with h2 | ⟨g, cap, cur, rfl, hB, hg, rest⟩
  · exact .inl h2
  · exact .inr ⟨g, cap, cur, rfl, hB, by rw [hb g (hlt g rfl).1 (hlt g rfl).2]; exact hg, rest⟩
theorem OwnSt.upB {w w' : World} {b B : Nat} {v : Value} {l : List ByteArray} (h : OwnSt w B v l) (hu : UpB b w.heap.size w w') (hb : b < B) : OwnSt w' B v l := h.same fun g h1 h2 => hu.block g h2 h2 (by omega)
theorem OwnL.upR {w w' : World} {b B : Nat} {v : Value} {l : List Int} (h : OwnL w B v l) (hu : UpB b w.heap.size w w') (hb : b < B) : OwnL w' B v l := h.same fun g h1 h2 => hu.block g h2 h2 (by omega)

set_option maxRecDepth 100000 in
set_option maxHeartbeats 2000000 in
theorem s_digitsM {p : List Int} {a : Option Addr} {c lo hi : Nat} {w : World} (hp : RI w lo hi a p) (hl : p.length ≤ 5) (hx : ∀ (k : Nat) (x : Int), p[k]? = some x → 1 ≤ x ∧ x ≤ 3) :
    Calls Tryz.prog 21 #[.slice a p.length c] w (fun e w' => ∃ s : ByteArray, e = .returned (.string s) ∧ s.size ≤ 5 ∧ Dr w w') := by
  have HX := Lib.hid hx; clear hx
  go_enter Tryz.func21, Tryz.ntmps21
  go_wp2
  go_loopw [3, 4] (fun v i wr => ∃ (k : Nat) (s : ByteArray), k ≤ p.length ∧ i = .int .i64 k ∧ v = .string s ∧ s.size ≤ k ∧ Dr w wr) (fun _ i _ => p.length - (intOf i).toNat)
  case atStart => exact ⟨0, _, Nat.zero_le _, rfl, rfl, by decide, Dr.refl _⟩
  case round =>
    obtain ⟨k, s, hk, rfl, rfl, hs, hd⟩ := hrel
    by_cases hlt : k < p.length
    · obtain ⟨b, o, x, ha, _, _, hcell, hx⟩ := (hp.dr hd).at hlt
      have hidx := idxI ha hlt c
      have hb := HX.out k x hx.out
      have cs : x = 1 ∨ x = 2 ∨ x = 3 := by omega
      clear ha hp
      rcases cs with rfl | rfl | rfl
      all_goals
        go_wp2_with fail
        go_quiet (fail)
        go_wp2
        go_roundw
        case rel => exact ⟨k + 1, _, by omega, by go_num, rfl, by simp [ByteArray.size_append, ByteArray.size_extract]; omega, hd.drewN _⟩
        case measure => simp [intOf]; omega
    · go_wp2
      go_ret
      exact ⟨s, rfl, by omega, hd⟩

theorem s_ofLit {b K N n : Nat} {cs : Array Value} {w : World} (hr : Rdr w b K) (hK : K ≤ 900000) (hn : cs.size = n) (h0 : 0 < n) (hn5 : n ≤ 100) (hN : ∀ (k : Nat) (v : Value), cs[k]? = some v → ∃ s : ByteArray, v = .string s ∧ s.size ≤ N) :
    Calls Tryz.prog 20 #[.pointer (some ⟨b, 0, none⟩), .slice (some ⟨w.heap.size, 0, none⟩) n n] (w.alloc (.cells cs 9)) (fun e w' => ∃ s : ByteArray, e = .returned (.string s) ∧ s.size ≤ N ∧ Rdr w' b (K + 1) ∧ UpB b w.heap.size w w') := by
  subst hn
  have hlt := hr.lt
  have hb := (Below.refl w.heap.size w).alloc (Nat.le_refl _) (.cells cs 9)
  refine (s_of (N := N) (hr.below hb hlt) (by omega) h0 (by omega) hlt (by simp) (litsTx hN)).mono ?_
  rintro e w' ⟨s, rfl, hs, hr', hu⟩
  exact ⟨s, rfl, hs, hr', UpB.upd ((UpB.refl b w.heap.size w).below hb (Nat.le_refl _)) hu⟩

theorem lits3 : ∀ (k : Nat) (v : Value), (#[.string ⟨#[99, 111, 118, 101, 114, 101, 100]⟩, .string ⟨#[103, 114, 111, 119]⟩, .string ⟨#[116, 114, 105, 109]⟩] : Array Value)[k]? = some v → ∃ s : ByteArray, v = .string s ∧ s.size ≤ 7 := by
  intro k v h
  have hm := Array.mem_of_getElem? h
  simp at hm
  rcases hm with rfl | rfl | rfl <;> exact ⟨_, rfl, by decide⟩
theorem lits5 : ∀ (k : Nat) (v : Value), (#[.string ⟨#[50]⟩, .string ⟨#[49]⟩, .string ⟨#[48]⟩, .string ⟨#[51]⟩, .string ⟨#[46]⟩] : Array Value)[k]? = some v → ∃ s : ByteArray, v = .string s ∧ s.size ≤ 1 := by
  intro k v h
  have hm := Array.mem_of_getElem? h
  simp at hm
  rcases hm with rfl | rfl | rfl | rfl | rfl <;> exact ⟨_, rfl, by decide⟩
theorem lits9 : ∀ (k : Nat) (v : Value), (#[.string ⟨#[]⟩, .string ⟨#[104, 101, 108, 112]⟩, .string ⟨#[103, 114, 111, 119]⟩, .string ⟨#[103, 114, 111, 119, 32, 50, 50, 32, 50]⟩, .string ⟨#[119, 97, 108, 107, 32, 50, 50, 32, 50, 32, 48, 48]⟩, .string ⟨#[103, 114, 111, 119, 32, 50, 50, 32, 50, 32]⟩, .string ⟨#[116, 114, 105, 109, 32, 50, 120, 32, 49, 32, 48, 48]⟩, .string ⟨#[99, 111, 118, 101, 114, 101, 100, 32, 50, 50, 50, 32, 50, 50, 32, 48, 48, 48]⟩, .string ⟨#[103, 114, 111, 119, 32, 32, 50, 50, 32, 50]⟩] : Array Value)[k]? = some v → ∃ s : ByteArray, v = .string s ∧ s.size ≤ 20 := by
  intro k v h
  have hm := Array.mem_of_getElem? h
  simp at hm
  rcases hm with rfl | rfl | rfl | rfl | rfl | rfl | rfl | rfl | rfl <;> exact ⟨_, rfl, by decide⟩

set_option maxRecDepth 100000 in
set_option maxHeartbeats 2000000 in
theorem s_DrawRunDesk {n : Nat} {a : Option Addr} {c : Nat} {w : World} (hm : RB w w.heap.size a n) (hc : n ≤ c) (hl : n ≤ 1048576) :
    Calls Tryz.prog 10 #[.slice a n c] w (fun e w' => ∃ (g c1 : Nat) (X : List ByteArray), e = .returned (.slice (some ⟨g, 0, none⟩) X.length c1) ∧ RSt w' w'.heap.size (some ⟨g, 0, none⟩) X ∧ X.length ≤ c1 ∧ X.length ≤ 4 ∧ Hid (∀ p ∈ X, p.size ≤ 1048576) ∧ Below w.heap.size w w') := by
  go_enter Tryz.func10, Tryz.ntmps10
  go_wp2_with fail
  refine (s_newReader hm hc hl).mono ?_
  rintro e w1 ⟨rfl, hr1, hb1⟩
  have hlt := hr1.lt
  have ho1 := OwnSt.made w1 w1.heap.size (Nat.le_refl _)
  have hbA := (Below.refl w1.heap.size w1).alloc (Nat.le_refl _) (.cells #[] 9)
  obtain ⟨W2, hW2⟩ : ∃ W, w1.alloc (.cells #[] 9) = W := ⟨_, rfl⟩
  have HW2 := Lib.hid hW2
  have hz2 : w1.heap.size + 1 = W2.heap.size := by rw [← hW2]; simp
  rw [hW2] at ho1 hbA
  have hr2 := hr1.below hbA hlt
  have hbB := (Below.refl W2.heap.size W2).alloc (Nat.le_refl _) (.cells #[.int .i64 3, .int .i64 4, .int .i64 2, .int .i64 0] 3)
  have HZ2 := Lib.hid hz2
  clear hW2 hz2 hr1
  go_wp2_with fail
  rw [HW2.out, HZ2.out]
  refine (s_one (hr2.below hbB (by have := HZ2.out; omega)) (by omega) (litW W2 _ [3, 4, 2, 0] rfl) (by simp) (by simp) (.inr (by have := HZ2.out; omega)) (by simp)).mono ?_
  rintro e w3 ⟨n0, rfl, hn, hr3, hu3⟩
  have hn5 : 0 ≤ n0 ∧ n0 ≤ 4 := by simp at hn; omega
  have hU3 : UpB w.heap.size w1.heap.size w1 w3 := (((UpB.refl w.heap.size w1.heap.size w1).below hbA (Nat.le_refl _)).below hbB (by have := HZ2.out; omega)).upd hu3
  have ho3 : OwnSt w3 w1.heap.size (.slice (some ⟨w1.heap.size, 0, none⟩) 0 0) [] := (ho1.same fun g _ h2 => hbB.block g h2).same fun g h1 h2 => hu3.block g h2 (by omega)
  obtain ⟨nn, rfl⟩ := Int.eq_ofNat_of_zero_le hn5.1
  clear hn hr2 hbA hbB ho1 hu3
  have hnn : nn ≤ 4 := by omega
  clear hn5
  go_wp2
  go_loopw [4, 5] (fun v i wr => ∃ (X : List ByteArray) (q : Nat), i = .int .i64 q ∧ X.length + q ≤ 4 ∧ OwnSt wr w1.heap.size v X ∧ Hid (v ≠ .slice none 0 0) ∧ Hid (∀ p ∈ X, p.size ≤ 1048576) ∧ Rdr wr w.heap.size (1 + 420 * X.length) ∧ UpB w.heap.size w1.heap.size w1 wr) (fun _ i _ => (intOf i).toNat)
  case atStart => exact ⟨[], nn, rfl, by simp; omega, ho3, by simp [Hid], by simp [Hid], hr3, hU3⟩
  case round =>
    clear ho3 hr3 hU3 hnn
    obtain ⟨X, q, rfl, hq4, hown, hvn, hX, hr, hU⟩ := hrel
    have hszr := hU.size
    by_cases hq : 0 < q
    · have hcut : True := trivial
      go_wp2_with fail
      refine (s_smallModelJ hr (by omega)).mono ?_
      rintro e w4 ⟨ma, mc, m, rfl, hom, ⟨hmk, hmL⟩, hr4, hu4⟩
      have hs4 := hu4.size
      have hm5 := okM_len hmk
      obtain ⟨_, _, em, hom2⟩ := hom.slice
      cases em
      have HMV : Hid (∀ (k : Nat) (x : Int), m[k]? = some x → 1 ≤ x ∧ x ≤ 3) := fun k x hk => okM_at hmk hk
      have HMJ : Hid (MdJ 5 m) := ⟨hm5.2, fun x hx => by obtain ⟨k, hk⟩ := List.mem_iff_getElem?.1 hx; exact okM_at hmk hk⟩
      clear hr hmk hmL
      go_wp2_with fail
      refine (s_ofLit (N := 7) (cs := #[.string ⟨#[99, 111, 118, 101, 114, 101, 100]⟩, .string ⟨#[103, 114, 111, 119]⟩, .string ⟨#[116, 114, 105, 109]⟩]) hr4 (by omega) rfl (by decide) (by decide) lits3).mono ?_
      rintro e w5 ⟨p1, rfl, hp1, hr5, hu5⟩
      have hv5 := hu4.trans (hu5.less (by omega))
      have hs5 := hv5.size
      have hom5 := hom.upR hu5 (by omega)
      obtain ⟨_, _, em, hom5i⟩ := hom5.slice
      cases em
      clear hr4 hu4 hu5 hom2 hom
      go_wp2_with fail
      refine (s_digitsM hom5i.ri hm5.2 HMV.out).mono ?_
      rintro e w6 ⟨p2, rfl, hp2, d6⟩
      have b6 := Dr.below d6 w5.heap.size
      have hv6 := hv5.below b6 (by omega)
      have hs6 := hv6.size
      have z6 := b6.size
      have hr6 := hr5.below b6 hr5.lt
      have hom6 := hom5.same (w' := w6) fun g _ h2 => b6.block g h2
      clear hr5 hv5 hom5 hom5i d6
      go_wp2_with fail
      refine (s_ofLit (N := 1) (cs := #[.string ⟨#[50]⟩, .string ⟨#[49]⟩, .string ⟨#[48]⟩, .string ⟨#[51]⟩, .string ⟨#[46]⟩]) hr6 (by omega) rfl (by decide) (by decide) lits5).mono ?_
      rintro e w7 ⟨p3, rfl, hp3, hr7, hu7⟩
      have hv7 := hv6.trans (hu7.less (by omega))
      have hs7 := hv7.size
      have hom7 := hom6.upR hu7 (by omega)
      obtain ⟨_, _, em, hom7i⟩ := hom7.slice
      cases em
      clear hr6 hv6 hu7 hom6
      go_wp2_with fail
      refine (s_aSuiteJ hr7 hom7i.ri (Nat.le_refl _) (by omega) HMJ.out (by omega)).mono ?_
      rintro e w8 ⟨a8, c8, P, rfl, ho8, ⟨hpl, hpb⟩, hr8, hu8⟩
      have hv8 := hv7.trans (hu8.less (by omega))
      have hs8 := hv8.size
      obtain ⟨_, _, e8, hR8⟩ := ho8.riic
      cases e8
      have HPX : Hid (∀ r ∈ P, r.length ≤ 5 ∧ ∀ (k : Nat) (x : Int), r[k]? = some x → -1 ≤ x ∧ x ≤ 2) := fun r hr => ⟨(hpb r hr).1, fun k x hx => by have := (hpb r hr).2 x (List.mem_of_getElem? hx); omega⟩
      have HP5 : Hid (∀ r ∈ P, r.length ≤ 5) := fun r hr => (hpb r hr).1
      clear hpb hr7 hv7 hu8 hom7 hom7i ho8
      go_wp2_with fail
      refine (s_suiteText hR8.rii (by omega) HPX.out).mono ?_
      rintro e w9 ⟨rfl, d9⟩
      have d9 : Dr w8 w9 := d9
      have b9 := Dr.below d9 w8.heap.size
      have hv9 := hv8.below b9 (by omega)
      have hs9 := hv9.size
      have hr9 := hr8.below b9 hr8.lt
      obtain ⟨T, hT⟩ : ∃ T, stT P = T := ⟨_, rfl⟩
      have hTs : T.size ≤ 126 := by rw [← hT]; have := stT_size HP5.out; omega
      rw [hT]
      clear hT b9 d9 hr8 hv8 hR8
      go_wp2_with fail
      obtain ⟨S, hS⟩ : ∃ S, p1 ++ ⟨#[32]⟩ ++ p2 ++ ⟨#[32]⟩ ++ p3 ++ ⟨#[32]⟩ ++ T = S := ⟨_, rfl⟩
      have hSs : S.size ≤ 150 := by
        rw [← hS]; simp only [ByteArray.size_append]
        have : (⟨#[32]⟩ : ByteArray).size = 1 := rfl
        omega
      have HSE := Lib.hid hS
      clear hS
      rw [HSE.out]
      clear HSE
      refine (s_pick hr9 (by omega) (by omega) (by omega)).mono ?_
      rintro e w10 ⟨v8, rfl, hv8, hr10, hu10⟩
      have hv10 := hv9.upd hu10
      have hs10 := hv10.size
      have hv80 := hv8.1
      clear hr9 hv9 hu10 hv8
      have hcu : (v8 = 0 ∨ v8 = 1) ∨ ¬ (v8 = 0 ∨ v8 = 1) := Classical.em _
      rcases hcu with (rfl | rfl) | hne
      · go_wp2_with fail
        refine (s_ofLit (N := 20) (cs := #[.string ⟨#[]⟩, .string ⟨#[104, 101, 108, 112]⟩, .string ⟨#[103, 114, 111, 119]⟩, .string ⟨#[103, 114, 111, 119, 32, 50, 50, 32, 50]⟩, .string ⟨#[119, 97, 108, 107, 32, 50, 50, 32, 50, 32, 48, 48]⟩, .string ⟨#[103, 114, 111, 119, 32, 50, 50, 32, 50, 32]⟩, .string ⟨#[116, 114, 105, 109, 32, 50, 120, 32, 49, 32, 48, 48]⟩, .string ⟨#[99, 111, 118, 101, 114, 101, 100, 32, 50, 50, 50, 32, 50, 50, 32, 48, 48, 48]⟩, .string ⟨#[103, 114, 111, 119, 32, 32, 50, 50, 32, 50]⟩]) hr10 (by omega) rfl (by decide) (by decide) lits9).mono ?_
        rintro e w11 ⟨p4, rfl, hp4, hr11, hu11⟩
        have hv11 := hv10.trans (hu11.less (by omega))
        have hs11 := hv11.size
        have ho11 := hown.upB hv11 hlt
        have hUU := hU.trans (hv11.less hszr)
        have HXX : Hid (∀ p ∈ X ++ [p4], p.size ≤ 1048576) := fun p hp => by
          rcases List.mem_append.1 hp with h1 | h1
          · exact hX.out p h1
          · rw [List.mem_singleton.1 h1]; omega
        clear hr10 hv10 hown hU hX
        go_wp2_with (first
          | (at_builtin; refine wpList_appSt rfl (.tmp 50) (.tmp 52) rfl w1.heap.size _ X rfl ho11 p4 rfl (by omega) (by omega) ?_; intro v12 w12 ho12 hb12 hn12)
          | go_in)
        have hr12 := hr11.below hb12 (by omega)
        have hU12 := hUU.below hb12 (Nat.le_refl _)
        clear ho11 hb12 hUU hr11 hv11
        go_wp2
        go_roundw
        case rel => exact ⟨X ++ [p4], q - 1, by go_num, by simp; omega, ho12, hn12, HXX, hr12.mono (by simp; omega), hU12⟩
        case measure => simp [intOf]; omega
      · go_wp2_with fail
        refine (s_mutate hr10 (by omega) (by omega)).mono ?_
        rintro e w11 ⟨p4, rfl, hp4, hr11, hu11⟩
        have hv11 := hv10.trans (hu11.less (by omega))
        have hs11 := hv11.size
        have ho11 := hown.upB hv11 hlt
        have hUU := hU.trans (hv11.less hszr)
        have HXX : Hid (∀ p ∈ X ++ [p4], p.size ≤ 1048576) := fun p hp => by
          rcases List.mem_append.1 hp with h1 | h1
          · exact hX.out p h1
          · rw [List.mem_singleton.1 h1]; omega
        clear hr10 hv10 hown hU hX
        go_wp2_with (first
          | (at_builtin; refine wpList_appSt rfl (.tmp 50) (.tmp 52) rfl w1.heap.size _ X rfl ho11 p4 rfl (by omega) (by omega) ?_; intro v12 w12 ho12 hb12 hn12)
          | go_in)
        have hr12 := hr11.below hb12 (by omega)
        have hU12 := hUU.below hb12 (Nat.le_refl _)
        clear ho11 hb12 hUU hr11 hv11
        go_wp2
        go_roundw
        case rel => exact ⟨X ++ [p4], q - 1, by go_num, by simp; omega, ho12, hn12, HXX, hr12.mono (by simp; omega), hU12⟩
        case measure => simp [intOf]; omega
      · have hne0 : (v8 == 0) = false := by rw [beq_eq_false_iff_ne]; omega
        have hne1 : (v8 == 1) = false := by rw [beq_eq_false_iff_ne]; omega
        have hv11 := hv10
        have hr11 := hr10
        obtain ⟨w11, hw11⟩ : ∃ w11, w10 = w11 := ⟨_, rfl⟩
        have hp4 := hSs
        subst hw11
        have hs11 := hv11.size
        have ho11 := hown.upB hv11 hlt
        have hUU := hU.trans (hv11.less hszr)
        have HXX : Hid (∀ p ∈ X ++ [S], p.size ≤ 1048576) := fun p hp => by
          rcases List.mem_append.1 hp with h1 | h1
          · exact hX.out p h1
          · rw [List.mem_singleton.1 h1]; omega
        clear hr10 hv10 hown hU hX
        go_wp2_with (first
          | (at_builtin; refine wpList_appSt rfl (.tmp 50) (.tmp 52) rfl w1.heap.size _ X rfl ho11 S rfl (by omega) (by omega) ?_; intro v12 w12 ho12 hb12 hn12)
          | go_in)
        have hr12 := hr11.below hb12 (by omega)
        have hU12 := hUU.below hb12 (Nat.le_refl _)
        clear ho11 hb12 hUU hr11 hv11
        go_wp2
        go_roundw
        case rel => exact ⟨X ++ [S], q - 1, by go_num, by simp; omega, ho12, hn12, HXX, hr12.mono (by simp; omega), hU12⟩
        case measure => simp [intOf]; omega
    · obtain ⟨g, c1, rfl, hg, hgc, hcs⟩ := hown.text hvn.out
      have hq0 : q = 0 := by omega
      subst hq0
      have HCS := Lib.hid hcs
      clear hcs hown
      go_wp2
      go_ret
      exact ⟨g, c1, X, rfl, fun k p hp => ⟨g, 0, rfl, hg, HCS.out k p hp⟩, hgc, by omega, hX, hb1.trans (hU.toBelow (by omega) (by omega))⟩

theorem nm_nl : ∀ n : Nat, (10 : UInt8) ∉ (nmS n).data.toList := by
  intro n
  induction n using Nat.strongRecOn with
  | _ n ih =>
    by_cases h : n < 10
    · rw [nm_small n h]
      clear ih
      revert n
      decide +kernel
    · rw [nm_big h]
      have h1 := ih (n / 10) (by omega)
      have h2 := ih (n % 10) (by omega)
      simp only [ByteArray.data_append, Array.toList_append, List.mem_append, not_or]
      exact ⟨h1, h2⟩
theorem dg_nl (x : Int) : dg x ≠ 10 := by
  unfold dg
  split
  · decide
  · split
    · decide
    · split <;> decide
theorem tx_nl (p : List Int) : (10 : UInt8) ∉ (txS p).data.toList := by
  unfold txS
  simp only [List.mem_map, not_exists, not_and]
  exact fun x _ => dg_nl x
theorem st_nl : ∀ (ps : List (List Int)), (10 : UInt8) ∉ (stT ps).data.toList := by
  intro ps
  induction h : ps.length generalizing ps with
  | zero => rw [List.eq_nil_of_length_eq_zero h]; decide
  | succ n ih =>
    obtain ⟨qs, q, rfl⟩ : ∃ qs q, ps = qs ++ [q] := ⟨ps.dropLast, ps.getLast (by intro e; rw [e] at h; simp at h), (List.dropLast_concat_getLast _).symm⟩
    have hn : qs.length = n := by simp at h; exact h
    have h1 := ih qs hn
    by_cases h0 : qs = []
    · subst h0
      rw [List.nil_append, stT_one]; exact tx_nl q
    · rw [stT_snoc h0]
      simp only [ByteArray.data_append, Array.toList_append, List.mem_append, not_or]
      exact ⟨⟨h1, by decide⟩, tx_nl q⟩
theorem dkV_nl {k : Nat} {m : List Int} {L : List (List Int)} {t : Int} (hm : okM m = true) (hs : okS m L = true) (h0 : 0 ≤ t) (h1 : t ≤ m.length) : (10 : UInt8) ∉ (dkV k m L t).data.toList := by
  obtain ⟨⟨a, b, ha, hb, _, _⟩, _, _⟩ := dk_facts hm hs h0 h1
  unfold dkV
  split
  · rw [ha, hb]
    simp only [ByteArray.data_append, Array.toList_append, List.mem_append, not_or]
    exact ⟨⟨nm_nl a, by decide⟩, nm_nl b⟩
  · split
    · split
      · exact st_nl _
      · decide
    · exact st_nl _
theorem anS_nl (line : ByteArray) : (10 : UInt8) ∉ (anS line).data.toList := by
  unfold anS
  by_cases h4 : (pcs 32 line).length = 4
  case neg => rw [anX_len h4]; decide
  obtain ⟨x0, x1, x2, x3, hX⟩ := four h4
  rw [hX]
  show (10 : UInt8) ∉ (anW x0 x1 x2 x3).data.toList
  unfold anW
  split
  · decide
  · split
    · rename_i h
      rw [Bool.and_eq_true] at h
      have hp := h.1
      have hd := h.2
      unfold psB at hp
      unfold dkD at hd
      rw [Bool.and_eq_true] at hp
      rw [Bool.and_eq_true, Bool.and_eq_true, Bool.and_eq_true, decide_eq_true_eq, decide_eq_true_eq, decide_eq_true_eq, decide_eq_true_eq] at hd
      exact dkV_nl hp.1 hp.2 (by unfold dkN; omega) (by unfold dkN; omega)
    · decide
theorem dkT_nl : ∀ (X : List ByteArray), (dkT X).data.toList.count 10 = X.length := by
  intro X
  unfold dkT
  induction X with
  | nil => rfl
  | cons l r ih =>
    have h := List.count_eq_zero.2 (anS_nl l)
    have e : ((l :: r).flatMap fun l => (anS l).data.toList ++ [10]) = (anS l).data.toList ++ [10] ++ r.flatMap fun l => (anS l).data.toList ++ [10] := by simp
    show List.count 10 (((l :: r).flatMap fun l => (anS l).data.toList ++ [10])) = _
    rw [e, List.count_append, List.count_append, h]
    have ih' : List.count 10 (r.flatMap fun l => (anS l).data.toList ++ [10]) = r.length := ih
    rw [ih']
    simp; omega
theorem dkT_pre (X : List ByteArray) (k : Nat) : (dkT (X.take k)).size ≤ (dkT X).size ∧ (dkT X).extract 0 (dkT (X.take k)).size = dkT (X.take k) := by
  have e : dkT X = dkT (X.take k) ++ dkT (X.drop k) := by
    unfold dkT
    apply ByteArray.ext
    conv => lhs; rw [← List.take_append_drop k X, List.flatMap_append]
    simp
  rw [e]
  refine ⟨by rw [ByteArray.size_append]; omega, ?_⟩
  generalize dkT (X.take k) = p
  generalize dkT (X.drop k) = q
  have e1 : (p ++ q).data.toList = p.data.toList ++ q.data.toList := by simp
  have e2 : p.size = p.data.toList.length := by simp
  apply ByteArray.ext
  apply Array.toList_inj.1
  rw [Lib.extract_data, e1, e2, List.drop_zero, Nat.sub_zero]
  exact List.take_left
theorem rd_small {X : List ByteArray} (h : X.length ≤ 4) : rdT X = dkT X := by unfold rdT; rw [if_neg (by omega)]
theorem dkT_pos {X : List ByteArray} (h : 0 < X.length) : 0 < (dkT X).size := by
  have h1 := dkT_nl X
  have h2 : (dkT X).data.toList.count 10 ≤ (dkT X).data.toList.length := List.count_le_length
  have e : (dkT X).data.toList.length = (dkT X).size := by simp
  omega

set_option maxRecDepth 100000 in
set_option maxHeartbeats 1000000 in
theorem l_newlines {s : ByteArray} {w : World} (hs : s.size ≤ 1048576) :
    Calls Tryz.prog 11 #[.string s] w (fun e w' => e = .returned (.int .i64 (s.data.toList.count 10 : Nat)) ∧ Dr w w') := by
  go_enter Tryz.func11, Tryz.ntmps11
  go_wp2
  go_loopw [3, 4] (fun v i wr => ∃ (k q : Nat), k ≤ s.size ∧ i = .int .i64 k ∧ v = .int .i64 q ∧ q ≤ k ∧ Hid (q = (s.data.toList.take k).count 10) ∧ Dr w wr) (fun _ i _ => s.size - (intOf i).toNat)
  case atStart => exact ⟨0, 0, Nat.zero_le _, rfl, rfl, Nat.le_refl _, by simp [Hid], Dr.refl _⟩
  case round =>
    obtain ⟨k, q, hk, rfl, rfl, hq, hQ, hd⟩ := hrel
    by_cases hlt : k < s.size
    · have hat := (at_byte hlt).2
      have hb := UInt8.toNat_lt s[k]
      by_cases hc : s[k] = 10
      · have hc1 : ((s[k].toNat : Int) == 10) = true := by rw [hc]; rfl
        have HQ2 : Hid (q + 1 = (s.data.toList.take (k + 1)).count 10) := by show _ = _; rw [hat, List.count_append, ← hQ.out, hc]; rfl
        clear hc hat
        go_wp2
        go_roundw
        case rel => exact ⟨k + 1, q + 1, by omega, by go_num, by go_num, by omega, HQ2, hd⟩
        case measure => simp [intOf]; omega
      · have hc1 : ((s[k].toNat : Int) == 10) = false := by
          rw [beq_eq_false_iff_ne]; intro e
          exact hc (UInt8.toNat_inj.1 (by show s[k].toNat = 10; omega))
        have HQ2 : Hid (q = (s.data.toList.take (k + 1)).count 10) := by show _ = _; rw [hat, List.count_append, ← hQ.out, List.count_cons_of_ne hc]; rfl
        clear hc hat
        go_wp2
        go_roundw
        case rel => exact ⟨k + 1, q, by omega, by go_num, rfl, by omega, HQ2, hd⟩
        case measure => simp [intOf]; omega
    · have h := hQ.out
      rw [List.take_of_length_le (by simp; omega)] at h
      have HH := Lib.hid h
      clear h
      go_wp2
      go_ret
      rw [← HH.out]
      exact ⟨rfl, hd⟩

theorem elemSt : Program.elem Tryz.prog 22 = 9 := by kernel_rfl
theorem undSte : Tryz.prog.underlying 22 = some (.slice (Program.elem Tryz.prog 22)) := by kernel_rfl
theorem sliceToSt {b o n c k : Nat} {z : Int} (hz : z = (k : Int)) (hk : k ≤ c) (wx : World) : (Instr.slice 22 (.slice (some ⟨b, o, none⟩) n c) none (some (.int .i64 z)) none).run Tryz.prog wx = .ok (.slice (some ⟨b, o, none⟩) k c) wx := by
  subst hz
  rw [run_slice_h (P := Tryz.prog) (w := wx) 22 (some ⟨b, o, none⟩) n c undSte .i64 (k : Int) (by omega) (by omega)]
  have hs := sizeSt wx
  rw [elemSt]
  simp [hs, Result.andThen, sliced, Addr.add]

set_option maxRecDepth 100000 in
set_option maxHeartbeats 4000000 in
theorem law_FnRunDesk {m0 : Nat} {a0 : Option Addr} {c0 : Nat} {w : World} {x0 x1 : Addr} (f0 : RB w w.heap.size a0 m0) (l0 : m0 ≤ c0) (hD : DeskW w x0 x1) :
    Calls Tryz.prog 4 #[.slice a0 m0 c0] w (Tru w) := by
  by_cases hb : m0 ≤ 1048576
  case neg =>
    go_enter Tryz.func4, Tryz.ntmps4
    go_wp2
    go_ret
    exact ⟨rfl, Below.refl _ _⟩
  go_enter Tryz.func4, Tryz.ntmps4
  go_wp2_with fail
  refine (s_DrawRunDesk f0 l0 hb).mono ?_
  rintro e w1 ⟨g, c1, X, rfl, hX, hXc, hX4, HS, b1⟩
  have hD1 := hD.below b1 (Nat.le_refl _)
  have z1 := b1.size
  clear hD f0
  have HR := Lib.hid (rd_small hX4)
  have HTS : Hid ((dkT X).size ≤ 20000) := by show _ ≤ _; have := dkT_size X; omega
  have HPOS : Hid (0 < X.length → 0 < (dkT X).size) := dkT_pos
  have HNL := Lib.hid (dkT_nl X)
  have HPRE := Lib.hid (dkT_pre X)
  obtain ⟨T, hT⟩ : ∃ T, dkT X = T := ⟨_, rfl⟩
  rw [hT] at HR HTS HPOS HNL HPRE
  have HT := Lib.hid hT
  clear hT
  have hne := strNeqY T
  have hTs := HTS.out
  go_wp2_with fail
  refine (i_RunDesk hX (by omega) HS.out (Nat.le_refl _) hD1).mono ?_
  rintro e w2 ⟨rfl, b2⟩
  rw [HR.out]
  have B2 := bnext b1 b2
  have hX2 := hX.below b2 (Nat.le_refl _)
  have hD2 := hD1.below b2 (Nat.le_refl _)
  have z2 := b2.size
  clear b1 b2 hX hD1
  go_wp2_with fail
  refine (s_RunDesk hX2 (by omega) HS.out (by omega)).mono ?_
  rintro e w3 ⟨rfl, b3⟩
  rw [HR.out]
  have B3 := bnext B2 b3
  have hX3 := hX2.below b3 (by omega)
  have hD3 := hD2.below b3 (Nat.le_refl _)
  have z3 := b3.size
  clear b3 B2 hX2 hD2
  by_cases h0 : X.length = 0
  · obtain rfl : X = [] := List.eq_nil_of_length_eq_zero h0
    have hTe : T = ⟨#[]⟩ := HT.out.symm.trans rfl
    subst hTe
    clear h0 hTs
    go_wp2_with fail
    refine (s_RunDesk hX3 (by omega) HS.out (by omega)).mono ?_
    rintro e w4 ⟨rfl, b4⟩
    rw [HR.out]
    have B4 := bnext B3 b4
    go_wp2
    go_ret
    exact ⟨rfl, B4⟩
  · have hTp := HPOS.out (by omega)
    have hemp := strNe (s := T) (by omega)
    have hbr := Below.refl w3.heap.size w3
    go_wp2
    go_loopw [5] (fun i wr => ∃ k : Nat, k ≤ X.length + 1 ∧ i = .int .i64 k ∧ Below w3.heap.size w3 wr) (fun i _ => X.length + 1 - (intOf i).toNat)
    case atStart => exact ⟨0, Nat.zero_le _, rfl, hbr⟩
    case round =>
      clear hbr
      obtain ⟨k, hk, rfl, hbk⟩ := hrel
      have hzk := hbk.size
      by_cases hlt : k ≤ X.length
      · have hsl := fun wx => sliceToSt (b := g) (o := 0) (n := X.length) (c := c1) (k := k) rfl (by omega) wx
        have hDk := hD3.below hbk (Nat.le_refl _)
        have hXk := (hX3.below hbk (by omega)).take k
        have hp := HPRE.out k
        have hE4 : rdT (X.take k) = dkT (X.take k) := rd_small (by rw [List.length_take]; omega)
        have hlk : (X.take k).length = k := by rw [List.length_take]; omega
        have HSk : Hid (∀ p ∈ X.take k, p.size ≤ 1048576) := fun p hp => HS.out p (List.mem_of_mem_take hp)
        have HC := i_RunDesk (c := c1) hXk (by omega) HSk.out (show w1.heap.size ≤ wr.heap.size by omega) hDk
        rw [hE4, hlk] at HC
        obtain ⟨E, hE⟩ : ∃ E, dkT (X.take k) = E := ⟨_, rfl⟩
        rw [hE] at hp HC
        have hle := hp.1
        have hpe : ((T.extract 0 E.size).toList == E.toList) = true := by rw [hp.2]; exact beq_self_eq_true _
        have hde : decide (T.size < E.size) = false := decide_eq_false (by omega)
        have HC := Lib.hid HC
        clear hE hp hXk hDk hE4 hlk
        go_wp2_with fail
        refine HC.out.mono ?_
        rintro e w5 ⟨rfl, b5⟩
        have hb5 := hbk.trans (b5.mono hzk)
        go_wp2
        refine ⟨⟨k + 1, by omega, by go_num, hb5⟩, ?_⟩
        simp [intOf]; omega
      · have heq : ((X.length : Int) == (X.length : Int)) = true := beq_self_eq_true _
        go_wp2_with fail
        refine (l_newlines (s := T) (by omega)).mono ?_
        rintro e w6 ⟨rfl, d6⟩
        rw [HNL.out]
        have B6 := (B3.trans (hbk.mono (by omega))).trans (Dr.below d6 _)
        go_wp2
        go_ret
        exact ⟨rfl, B6⟩

end Go.Proofs.YtpioldgpfpmjiaaGreatDoor
