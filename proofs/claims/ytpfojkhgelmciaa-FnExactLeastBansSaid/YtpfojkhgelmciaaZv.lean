/- Walks: least bans, by the document's reference. -/
import Derived.Test.YtpfojkhgelmciaaRl
import Derived.Test.YtpfojkhgelmciaaZa
import Derived.Test.YtpfojkhgelmciaaZj
namespace Go.Proofs.Ytpfojkhgelmciaa
open Go.RowKit

theorem lsA_any {m : List Int} {b : List (List Int)} {r : List Int} {q : Nat} {x : Int} (h : r[q]? = some x) (hx : x = -1) : lsA m b r q = true := by unfold lsA; rw [at5_of h, hx]; rfl
theorem lsA_val {m : List Int} {b : List (List Int)} {r : List Int} {q : Nat} {x : Int} (h : r[q]? = some x) (hx : x ≠ -1) : lsA m b r q = hasP (alL m b) (r.set q (-1)) := by
  unfold lsA; rw [at5_of h, show (x == -1) = false by rw [beq_eq_false_iff_ne]; exact hx, Bool.false_or]
theorem rng_snoc {f : Nat → Bool} {q : Nat} : (List.range (q + 1)).all f = ((List.range q).all f && f q) := by rw [List.range_succ, List.all_append]; simp

/-- append of a row to rows of others: other blocks stay -/
theorem wpList_appXK {wr : World} {ops : Array Oper} {rest : List Oper} {o : Oper} {a : Act} {Q : Exit → Act → World → Prop} (hgd : o.guard = none) (s t : Operand)
    (ho : o.op = .call { callee := .builtin .append, args := #[s, t], argTypes := #[23, 23] }) (B lo hi : Nat) (v : Value) (mm : List (List Int)) (hs : a.eval s = v) (hown : OwnX wr B v mm) (hB : B ≤ wr.heap.size)
    (r : List Int) (a' : Option Addr) (n c' : Nat) (hn : n = r.length) (hr : RI wr lo hi a' r) (hcap : r.length ≤ c') (hlo : B ≤ lo) (hhi : hi ≤ wr.heap.size) (hoff : ∀ g, v.ownBlock = some g → g < lo ∨ hi ≤ g) (nw : Nat) (hx : a.eval t = .slice (some ⟨nw, 0, none⟩) 1 1) (hnw : nw = wr.heap.size) (hl : mm.length ≤ 1099511627776)
    (h : ∀ v' w', OwnX w' B v' (mm ++ [r]) → Below B wr w' → (∀ b, b < wr.heap.size → v.ownBlock ≠ some b → w'.heap[b]? = wr.heap[b]?) → Hid (v'.ownBlock = v.ownBlock ∨ v'.ownBlock = some (wr.heap.size + 1)) → wpList Try.prog ops Q rest (a.put o.dst v') w') : wpList Try.prog ops Q (o :: rest) a (wr.alloc (.cells #[.slice a' n c'] 22)) := by
  subst hnw hn
  have hlt0 := hown.lt
  obtain ⟨xs, h1, h2⟩ := hown
  have hxl : xs.length = mm.length := by have := h1.1; omega
  obtain ⟨i0, hi0, hz0, hz1, hz2⟩ := info_parts infoI
  have hbA := (Below.refl wr.heap.size wr).alloc (Nat.le_refl _) (.cells #[.slice a' r.length c'] 22)
  refine wpList_append_own_at _ hgd s t 23 ho B 22 i0 (.slice none 0 0) 1 24 undII hi0 hz0 hz1 hz2 rfl (by decide) v mm.length xs hs (World.ownsRow.alloc h1 _) ⟨wr.heap.size, 0, none⟩ 1 1 [.slice a' r.length c'] hx rfl (cell_one_new _ _ _) ?_ ?_ ?_ ?_ ?_
  · intro u hu; simp at hu; subst hu; rfl
  · unfold maxLen; omega
  · omega
  · simp; omega
  · intro v' w' g1 g2 g3 g4
    have hs2 := g2.size
    simp only [World.size_alloc] at hs2 g4
    have hBw : Below B wr w' := ((Below.refl B wr).alloc hB _).grown g2 (by simp; omega) fun k hk => (hlt0 k hk).1
    have hkeep : ∀ b, b < wr.heap.size → v.ownBlock ≠ some b → w'.heap[b]? = wr.heap[b]? := fun b hb hn => (g2.block b (by simp; omega) fun e => hn e.symm).trans (hbA.block b hb)
    have hnew : ∀ b, b < wr.heap.size → v.ownBlock ≠ some b → v'.ownBlock ≠ some b := fun b hb hn => by
      rcases g4 with g4 | g4
      · rw [g4]; exact hn
      · rw [g4]; intro e; cases e; omega
    refine h v' w' ⟨xs ++ [.slice a' r.length c'], by rw [List.length_append]; exact g1, fun k q e => ?_⟩ hBw hkeep g4
    rcases app_at e with ⟨hk, e⟩ | ⟨hk, e⟩
    · obtain ⟨a1, c1, e1, e2, e3⟩ := h2 k q e
      exact ⟨a1, c1, by rw [List.getElem?_append_left (by omega)]; exact e1, e2, e3.same fun b hb => ⟨⟨hb.1, by omega, hnew b hb.2.1 hb.2.2⟩, hkeep b hb.2.1 hb.2.2⟩⟩
    · have hk0 := lt_of_at e
      simp at hk0
      have hk1 : k = mm.length := by omega
      subst hk1
      obtain rfl : r = q := by simpa using e
      refine ⟨a', c', by rw [← hxl, List.getElem?_append_right (Nat.le_refl _)]; simp, hcap, RIp.ofRI (lo := lo) (hi := hi) ?_ fun b hb1 hb2 => ⟨by omega, by omega, ?_⟩⟩
      · exact hr.same fun b hb1 hb2 => hkeep b (by omega) fun e => by have := hoff b e; omega
      · exact hnew b (by omega) fun e => by have := hoff b e; omega
theorem Kp.keep {B lo hi : Nat} {w0 w w' : World} {v : Value} (h : Kp B lo hi w0 w) (hB : Below B w w') (hk : ∀ b, b < w.heap.size → v.ownBlock ≠ some b → w'.heap[b]? = w.heap[b]?) (ho : ∀ g, v.ownBlock = some g → g < lo ∨ hi ≤ g) : Kp B lo hi w0 w' :=
  h.trans ⟨hB.os, hB.tape, hB.output, hB.size, fun j hj hr => by
    rcases hr with hr | hr
    · exact hB.block j hr
    · exact hk j hj fun e => by have := ho j e; omega⟩
theorem setBelow {B : Nat} {w w1 : World} {p : Addr} {v : Value} (h : Below B w w1) (hp : B ≤ p.block) : Below B w (w1.setCell p v) :=
  ⟨h.os, h.tape, h.output, by simp [World.setCell]; exact h.size, fun k hk => (Below.heap_setCell _ _ _ _ (by omega)).trans (h.block k hk)⟩

set_option maxRecDepth 100000 in
set_option maxHeartbeats 4000000 in
theorem s_leastBans {m : List Int} {s : List (List Int)} {a a' : Option Addr} {c c' lo hi lo' hi' : Nat} {w : World} (hok : okM m = true) (hm : RI w lo hi a m) (hB : hi ≤ w.heap.size) (hs : RII w lo' hi' a' s) (hB' : hi' ≤ w.heap.size) (hsl : s.length ≤ 1048576) (hr : ∀ r ∈ s, r.length = m.length) :
    Calls Try.prog 120 #[.slice a m.length c, .slice a' s.length c'] w (GotII w (lbK m s (m.length + 1))) := by
  have hm5 := okM_len hok
  have HOK := Lib.hid hok; clear hok
  have HR := Lib.hid hr; clear hr
  have hbA := (Below.refl w.heap.size w).alloc (Nat.le_refl _) (.cells #[] 22)
  have hmA := hm.below hbA hB
  have hsA := hs.below hbA hB'
  have HAL := Lib.hid (alL_len2 (b := s) HOK.out)
  have HAR := Lib.hid (alL_row (m := m) (b := s))
  have HO0 : OwnX (w.alloc (.cells #[] 22)) w.heap.size (.slice (some ⟨w.heap.size, 0, none⟩) 0 0) [] := OwnX.made w w.heap.size (Nat.le_refl _)
  have HM0 := Lib.hid hm
  obtain ⟨AL, hAL⟩ : ∃ AL, alL m s = AL := ⟨_, rfl⟩
  have HAA := Lib.hid hAL
  go_enter Try.func120, Try.ntmps120
  go_wp2_with fail
  refine (s_allowedTests HOK.out hmA (by simp; omega) hsA (by simp; omega) hsl HR.out).mono ?_
  rintro e w0 ⟨a0, c0, rfl, h0, hb0⟩
  have hb00 : Below (w.heap.size + 1) (w.alloc (.cells #[] 22)) w0 := hb0.mono (by simp)
  have hs0 := hb0.size
  simp only [World.size_alloc] at hs0
  have hbW0 : Below w.heap.size w w0 := hbA.trans (hb00.mono (by omega))
  have HBW0 := Lib.hid hbW0
  have hal : RII w0 (w.heap.size + 1) w0.heap.size a0 AL := by have := h0.rii; rw [hAL] at this; exact this.wide (by simp) (Nat.le_refl _)
  have hX0 := HO0.below hb0
  rw [hAL] at HAL HAR ⊢
  have hall0 := HAL.out
  clear h0 hb0 hAL hmA hsA HO0 hm hs hb00 hbA hbW0
  go_wp2
  go_loopw [5, 7] (fun v i wr => ∃ (k : Nat) (al : Option Addr) (cl : Nat) (L : List (List Int)), k ≤ m.length + 1 ∧ i = .int .i64 k ∧ v = .slice al L.length cl ∧ OwnX wr w.heap.size (.slice al L.length cl) L ∧ Hid (L = lbK m s k) ∧ L.length ≤ 1024 * k ∧ Kp w.heap.size (w.heap.size + 1) w0.heap.size w0 wr ∧ Hid (∀ g, (Value.slice al L.length cl).ownBlock = some g → g < w.heap.size + 1 ∨ w0.heap.size ≤ g)) (fun _ i _ => m.length + 1 - (intOf i).toNat)
  case atStart => exact ⟨0, _, _, [], Nat.zero_le _, rfl, rfl, hX0, by simp [Hid, lbK], Nat.zero_le _, Kp.refl _ _ _ _, fun g hg => by cases hg; exact .inl (Nat.lt_succ_self _)⟩
  case round =>
    clear hX0
    obtain ⟨k, al, cl, L, hk, rfl, rfl, hX, hL, hLl, hK, hO⟩ := hrel
    obtain ⟨wo, rfl⟩ : ∃ x : World, x = wr := ⟨_, rfl⟩
    have hzk := hK.size
    have hkl := Nat.mul_le_mul_left 1024 hk
    by_cases hlt : (k : Int) ≤ m.length
    case neg =>
      have HE : Hid (L = lbK m s (m.length + 1)) := by show _ = _; rw [hL.out]; congr 1; omega
      have hbw := hK.below (by omega)
      obtain ⟨a4, c4, e4, hR4⟩ := hX.riic
      cases e4
      have hbF := HBW0.out.trans (hbw.mono (Nat.le_refl _))
      clear hX hbw
      go_wp2
      go_ret
      rw [← HE.out]
      exact ⟨_, _, rfl, hR4, hbF⟩
    case pos =>
    have hbwr : Below w.heap.size w wo := HBW0.out.trans ((hK.below (by omega)).mono (Nat.le_refl _))
    have hbB := (Below.refl wo.heap.size wo).alloc (Nat.le_refl _) (.cells #[] 3)
    have hm3 := (HM0.out.below hbwr hB).below hbB (by omega)
    have HRow := Lib.hid (patS_row (m := m) (t := (k : Int)))
    have HLN := Lib.hid (patS_len (head := []) HOK.out (k : Int))
    have HMP := Lib.hid (fun r => mem_patS (p := r) (t := (k : Int)) HOK.out)
    have halr := hal.kp hK (Nat.le_refl _)
    have HBWR := Lib.hid hbwr
    clear hbwr
    go_wp2_with fail
    refine (s_patterns HOK.out m.length [] a ⟨wo.heap.size, 0, none⟩ c 0 lo hi 0 0 _ (k : Int) (by simp) hm3 (by simp; omega) (RI.nil _ _ _ _) (by simp) (by omega) (by omega)).mono ?_
    rintro e w2 ⟨ad1, c1, rfl, h1, hb1⟩
    obtain ⟨ps, hps⟩ : ∃ ps, patS m [] (k : Int) = ps := ⟨_, rfl⟩
    have HPS : Hid (lbK m s (k + 1) = lbK m s k ++ ps.filter (lsB m s)) := by show _ = _; rw [lbK_succ]; unfold lsP; rw [hps]
    rw [hps] at h1 HRow HLN HMP ⊢
    clear hps
    have hb1a : Below wo.heap.size wo w2 := hbB.trans (hb1.mono (by simp))
    have hs2 := hb1a.size
    have hall : RII w2 wo.heap.size w2.heap.size (some ad1) ps := by have := h1.rii; simp only [World.size_alloc] at this; exact this.wide (by omega) (Nat.le_refl _)
    have hpl := HLN.out
    have hX2 := hX.below hb1a
    have hK2 := hK.trans (Kp.ofBelow hb1a)
    have hltX := hX.lt
    have HO2 : Hid (∀ g, (Value.slice al L.length cl).ownBlock = some g → g < wo.heap.size ∨ w2.heap.size ≤ g) := fun g hg => .inl (hltX g hg).2
    have HLK : Hid (L = lbK m s k ++ (ps.take 0).filter (lsB m s)) := by show _ = _; rw [hL.out]; simp
    clear h1 hb1 hbB hm3 hX hltX halr hb1a hK
    go_wp2
    go_loopw [5, 9] (fun v i wx => ∃ (j : Nat) (al : Option Addr) (cl : Nat) (L : List (List Int)), j ≤ ps.length ∧ i = .int .i64 j ∧ v = .slice al L.length cl ∧ OwnX wx w.heap.size (.slice al L.length cl) L ∧ Hid (L = lbK m s k ++ (ps.take j).filter (lsB m s)) ∧ L.length ≤ 1024 * k + j ∧ Kp w.heap.size (w.heap.size + 1) w0.heap.size w0 wx ∧ Kp w.heap.size wo.heap.size w2.heap.size w2 wx ∧ Hid (∀ g, (Value.slice al L.length cl).ownBlock = some g → g < w.heap.size + 1 ∨ w0.heap.size ≤ g) ∧ Hid (∀ g, (Value.slice al L.length cl).ownBlock = some g → g < wo.heap.size ∨ w2.heap.size ≤ g)) (fun _ i _ => ps.length - (intOf i).toNat)
    case atStart => exact ⟨0, _, _, L, Nat.zero_le _, rfl, rfl, hX2, HLK, by omega, hK2, Kp.refl _ _ _ _, hO, HO2⟩
    case round =>
      clear hX2 hK2 hO HO2 HLK hL hLl
      obtain ⟨j, al, cl, L, hj, rfl, rfl, hX, hL, hLl, hK, hKp, hO, hOp⟩ := hrel
      have hzj := hKp.size
      obtain ⟨wx, rfl⟩ : ∃ x : World, x = wr := ⟨_, rfl⟩
      by_cases hjt : j < ps.length
      case neg =>
        have hbw := hKp.size
        have HE : Hid (L = lbK m s (k + 1)) := by show _ = _; rw [hL.out, HPS.out, List.take_of_length_le (by omega)]
        go_wp2
        go_roundw
        case rel => exact ⟨k + 1, al, cl, L, by omega, by go_num, rfl, hX, HE, by omega, hK, hO⟩
        case measure => simp [intOf]; omega
      case pos =>
      obtain ⟨b, o, a2, c2, r, ha, hlb, hbh, hcell, hr1, hx, hcp⟩ := (hall.kp hKp (Nat.le_refl _)).atc hjt
      have hidx := idxII ha hjt c1
      have HRL := Lib.hid (HRow.out r (List.mem_of_getElem? hx.out))
      have hrl := HRL.out
      have hs3 := hal.kp hK (Nat.le_refl _)
      have H5 : Hid (∀ q ∈ AL, r.length ≤ q.length ∧ q.length ≤ 9223372036854775807) := by
        intro q hq
        have := HAR.out q hq
        omega
      obtain ⟨hp, hhp⟩ : ∃ x, hasP AL r = x := ⟨_, rfl⟩
      have HHP := Lib.hid hhp
      have HRLn := Lib.hid hrl
      clear ha hrl
      go_wp2_with fail
      refine (s_covers hs3 hr1 (by omega) H5.out).mono ?_
      rintro e w3 ⟨rfl, hd⟩
      rw [hhp]
      have hd : Dr wx w3 := hd
      have hb3 := Dr.below hd wx.heap.size
      have hcell3 : w3.cell? ⟨b, o + j, none⟩ = some (.slice a2 r.length c2) := (hb3.cell (p := ⟨b, o + j, none⟩) (by show b < _; omega)).trans hcell
      have hr3 := hr1.below hb3 (by omega)
      have hs4 := hs3.below hb3 (by have := hK.size; omega)
      have hzd := hb3.size
      have hX3 := hX.below hb3
      have hK3 := hK.trans (Kp.ofBelow hb3)
      have hKp3 := hKp.trans (Kp.ofBelow hb3)
      clear hcell hr1 hs3 hX hK hKp hd hb3 hhp
      go_wp2
      go_loopw [10, 11] (fun v i wi => ∃ (q : Nat) (x : Bool), q ≤ m.length ∧ i = .int .i64 q ∧ v = .bool x ∧ Hid (x = (!hp && (List.range q).all (lsA m s r))) ∧ Below w3.heap.size w3 wi) (fun _ i _ => m.length - (intOf i).toNat)
      case atStart => exact ⟨0, !hp, Nat.zero_le _, rfl, rfl, by simp [Hid], Below.refl _ _⟩
      case round =>
        obtain ⟨q, x, hq, rfl, rfl, hxq, hBq⟩ := hrel
        obtain ⟨wy, rfl⟩ : ∃ x : World, x = wr := ⟨_, rfl⟩
        have hzq := hBq.size
        by_cases hqt : q < m.length
        case neg =>
          have HXE : Hid (x = lsB m s r) := by
            show _ = _
            rw [hxq.out, show q = m.length by omega, ← HHP.out, ← HAA.out]
            rfl
          have hX4 := hX3.below hBq
          have hK4 := hK3.trans (Kp.ofBelow hBq)
          have hKp4 := hKp3.trans (Kp.ofBelow hBq)
          have hcell4 : wy.cell? ⟨b, o + j, none⟩ = some (.slice a2 r.length c2) := (hBq.cell (p := ⟨b, o + j, none⟩) (by show b < _; omega)).trans hcell3
          have hr4 := hr3.below hBq (by omega)
          clear hX3 hK3 hKp3 hcell3 hr3 hs4 hxq
          cases x
          · have HM := Lib.hid (flt_skip (f := lsB m s) hx.out HXE.out.symm)
            have HLN2 : Hid (L = lbK m s k ++ (ps.take (j + 1)).filter (lsB m s)) := by show _ = _; rw [HM.out]; exact hL.out
            go_wp2
            go_roundw
            case rel => exact ⟨j + 1, al, cl, L, by omega, by go_num, rfl, hX4, HLN2, by omega, hK4, hKp4, hO, hOp⟩
            case measure => simp [intOf]; omega
          · have HM := Lib.hid (flt_step (f := lsB m s) hx.out HXE.out.symm)
            go_wp2_with (first
              | (at_builtin; refine wpList_appXK rfl (.tmp 70) (.tmp 75) rfl w.heap.size wo.heap.size w2.heap.size _ L rfl hX4 (by omega) r a2 r.length c2 rfl hr4 hcp (by omega) (by omega) hOp.out wy.heap.size rfl rfl (by omega) ?_; intro v8 w8 hown8 hb8 hkp8 hnew8; obtain ⟨a8, c8, hv8, _⟩ := hown8.riic; subst hv8)
              | go_in)
            have hz8 := hb8.size
            have HLN2 : Hid (L ++ [r] = lbK m s k ++ (ps.take (j + 1)).filter (lsB m s)) := by show _ = _; rw [HM.out, hL.out, List.append_assoc]
            have hK8 := hK4.keep hb8 hkp8 hO.out
            have hKp8 := hKp4.keep hb8 hkp8 hOp.out
            have HO8 : Hid (∀ g, (Value.slice a8 (L ++ [r]).length c8).ownBlock = some g → g < w.heap.size + 1 ∨ w0.heap.size ≤ g) := fun g hg => by
              rcases hnew8.out with h9 | h9
              · rw [h9] at hg; exact hO.out g hg
              · rw [h9] at hg; cases hg; omega
            have HOp8 : Hid (∀ g, (Value.slice a8 (L ++ [r]).length c8).ownBlock = some g → g < wo.heap.size ∨ w2.heap.size ≤ g) := fun g hg => by
              rcases hnew8.out with h9 | h9
              · rw [h9] at hg; exact hOp.out g hg
              · rw [h9] at hg; cases hg; omega
            clear hX4 hK4 hKp4 hb8 hkp8 hnew8 hO hOp hr4
            go_roundw
            case rel => exact ⟨j + 1, a8, c8, L ++ [r], by omega, by go_num, by simp, hown8, HLN2, by simp; omega, hK8, hKp8, HO8, HOp8⟩
            case measure => simp [intOf]; omega
        case pos =>
        have hr5 := hr3.below hBq (by omega)
        obtain ⟨b3, o3, u, ha3, _, hb3h, hcu, hu⟩ := hr5.at (show q < r.length by have := HRLn.out; omega)
        have hidq0 := idxI ha3 (show q < r.length by have := HRLn.out; omega) c2
        have hstr := OwnL.made wy wy.heap.size (Nat.le_refl _)
        have hbA := (Below.refl wy.heap.size wy).alloc (Nat.le_refl _) (.cells #[] 3)
        have hrA := hr5.below hbA (by omega)
        have hcell5 : wy.cell? ⟨b, o + j, none⟩ = some (.slice a2 r.length c2) := (hBq.cell (p := ⟨b, o + j, none⟩) (by show b < _; omega)).trans hcell3
        have hbl : b < wy.heap.size := by omega
        have hcellA : (wy.alloc (.cells #[] 3)).cell? ⟨b, o + j, none⟩ = some (.slice a2 r.length c2) := (hbA.cell (p := ⟨b, o + j, none⟩) (by show b < _; omega)).trans hcell5
        have hqr : q < r.length := by have := HRLn.out; omega
        have hrl5 : r.length ≤ 5 := by have := HRLn.out; omega
        have hs5 := hs4.below hBq (by omega)
        have hb3l : b3 < wy.heap.size := by omega
        clear ha3 hr5 hbA hs4
        by_cases hany : u = -1
        · have HLA : Hid (x = (!hp && (List.range (q + 1)).all (lsA m s r))) := by show _ = _; rw [rng_snoc, lsA_any hu.out hany, Bool.and_true]; exact hxq.out
          subst hany
          clear hxq
          go_wp2_with (at_builtin; refine wpList_appA rfl (.tmp 46) (.tmp 50) rfl wy.heap.size _ [] rfl hstr r _ _ c2 a2 rfl hrA (by simp) (by omega) (by simp) ?_; intro v6 w6 hown6 hb6; have hb06 := chain1 hb6; simp only [List.nil_append] at hown6; obtain ⟨qa, qc, rfl, hoi⟩ := hown6.slice; have hoo := hoi.oi; obtain ⟨qb, qo, rfl, hq1, hq2, ⟨qy, hqy, hqc⟩, hqf⟩ := hoo q hqr; have hidq := idxI (b := qb) (o := qo) rfl hqr qc; have hb07 := setBelow (p := ⟨qb, qo + q, none⟩) (v := .int .i64 (-1)) hb06 hq1; have hcell7 := (hb07.cell (p := ⟨b, o + j, none⟩) (by show b < _; omega)).trans hcell5; have hcu7 := (hb07.cell (p := ⟨b3, o3 + q, none⟩) (by show b3 < _; omega)).trans hcu; have hO2 := Lib.hid (hoo.set hqr (-1)); have HB07 := Lib.hid hb07; clear hown6 hb6 hoi hstr hrA hb06 hb07 hoo)
          have hBF := hBq.trans (HB07.out.mono hzq)
          clear hcell7 hcu7 hidq hqc hqf hidq0 hcu hcell5 hcellA
          go_roundw
          case rel => exact ⟨q + 1, x, by omega, by go_num, rfl, HLA, hBF⟩
          case measure => simp [intOf]; omega
        · have hc1 : (u == -1) = false := by rw [beq_eq_false_iff_ne]; exact hany
          have HLV := Lib.hid (lsA_val (m := m) (b := s) hu.out hany)
          have hc2 : decide (u = -1) = false := by rw [decide_eq_false_iff_not]; exact hany
          go_wp2_with (at_builtin; refine wpList_appA rfl (.tmp 46) (.tmp 50) rfl wy.heap.size _ [] rfl hstr r _ _ c2 a2 rfl hrA (by simp) (by omega) (by simp) ?_; intro v6 w6 hown6 hb6; have hb06 := chain1 hb6; simp only [List.nil_append] at hown6; obtain ⟨qa, qc, rfl, hoi⟩ := hown6.slice; have hoo := hoi.oi; obtain ⟨qb, qo, rfl, hq1, hq2, ⟨qy, hqy, hqc⟩, hqf⟩ := hoo q hqr; have hidq := idxI (b := qb) (o := qo) rfl hqr qc; have hb07 := setBelow (p := ⟨qb, qo + q, none⟩) (v := .int .i64 (-1)) hb06 hq1; have hcell7 := (hb07.cell (p := ⟨b, o + j, none⟩) (by show b < _; omega)).trans hcell5; have hcu7 := (hb07.cell (p := ⟨b3, o3 + q, none⟩) (by show b3 < _; omega)).trans hcu; have hO2 := Lib.hid (hoo.set hqr (-1)); have HB07 := Lib.hid hb07; clear hown6 hb6 hoi hstr hrA hb06 hb07 hoo)
          obtain ⟨w7, hw7⟩ : ∃ x, w6.setCell ⟨qb, qo + q, none⟩ (.int .i64 (-1)) = x := ⟨_, rfl⟩
          rw [hw7] at hcell7 hcu7 hO2 HB07 ⊢
          obtain ⟨l, hl⟩ : ∃ l, r.set q (-1) = l := ⟨_, rfl⟩
          have hll : l.length = r.length := by rw [← hl]; simp
          rw [hl] at hO2 HLV
          have HC : Hid (Calls Try.prog 118 #[.slice a0 AL.length c0, .slice (some ⟨qb, qo, none⟩) r.length qc] w7 (RO w7 (.bool (hasP AL l)))) := by
            have h := s_covers (c := qc) (c' := c0) (hs5.below HB07.out (by omega)) hO2.out.ri (by omega) (fun q hq => by have := H5.out q hq; omega)
            rw [hll] at h
            exact h
          obtain ⟨z, hz⟩ : ∃ z, hasP AL l = z := ⟨_, rfl⟩
          have HZ := Lib.hid hz
          rw [hz] at HC
          have HL2 : Hid (lsA m s r q = z) := by show _ = _; rw [HLV.out, HAA.out, hz]
          clear hw7 hl hll hz hidq hqc hqf hidq0 hcu hcell5 hcellA hcell7 hcu7
          refine HC.out.mono ?_
          rintro e w9 ⟨rfl, hd9⟩
          have hd9 : Dr w7 w9 := hd9
          have hBF := hBq.trans ((HB07.out.trans ((Dr.below hd9 w7.heap.size).mono (by have := HB07.out.size; omega))).mono hzq)
          clear HC hd9
          cases z
          · have HLA : Hid (false = (!hp && (List.range (q + 1)).all (lsA m s r))) := by show _ = _; rw [rng_snoc, HL2.out]; simp
            clear hxq
            go_wp2
            go_roundw
            case rel => exact ⟨q + 1, false, by omega, by go_num, rfl, HLA, hBF⟩
            case measure => simp [intOf]; omega
          · have HLA : Hid (x = (!hp && (List.range (q + 1)).all (lsA m s r))) := by show _ = _; rw [rng_snoc, HL2.out, Bool.and_true]; exact hxq.out
            clear hxq
            go_wp2
            go_roundw
            case rel => exact ⟨q + 1, x, by omega, by go_num, rfl, HLA, hBF⟩
            case measure => simp [intOf]; omega

set_option maxHeartbeats 2000000 in
theorem s_LeastBans {m : List Int} {a : Option Addr} {c lo hi : Nat} {s : List (List Int)} {a1 : Option Addr} {c1 lo1 hi1 : Nat} {w : World} (hm : RI w lo hi a m) (hlm : m.length ≤ 9223372036854775807) (hs : RII w lo1 hi1 a1 s) (hls : s.length ≤ 9223372036854775807) (hg : ∀ r ∈ s, r.length ≤ 9223372036854775807) (hB : hi ≤ w.heap.size) (hB1 : hi1 ≤ w.heap.size)  :
    Calls Try.prog 56 #[.slice a m.length c, .slice a1 s.length c1] w (GotII w (lbL m s)) := by
  have HG := Lib.hid hg; clear hg
  have D0 : Dr w w := Dr.refl w
  cases hHOK : okM m
  · have HOK := Lib.hid hHOK; clear hHOK
    go_enter Try.func56, Try.ntmps56
    go_wp2_with fail
    refine (s_validModel (hm.dr D0) hlm).mono ?_
    rintro e w1 ⟨rfl, d1⟩
    rw [HOK.out]
    have D1 := Dr.trans D0 d1
    clear d1
    go_wp2
    go_ret
    exact GotII.none (lb_no (show bnM m s = false by unfold bnM; rw [HOK.out]; rfl)) (Dr.below D1 _)
  have HOK := Lib.hid hHOK; clear hHOK
  cases hHOB : okBn m s
  · have HOB := Lib.hid hHOB; clear hHOB
    go_enter Try.func56, Try.ntmps56
    go_wp2_with fail
    refine (s_validModel (hm.dr D0) hlm).mono ?_
    rintro e w1 ⟨rfl, d1⟩
    rw [HOK.out]
    have D1 := Dr.trans D0 d1
    clear d1
    go_wp2_with fail
    refine (s_validBans (hm.dr D1) (hs.dr D1) HOK.out hls HG.out).mono ?_
    rintro e w2 ⟨rfl, d2⟩
    rw [HOB.out]
    have D2 := Dr.trans D1 d2
    clear d2
    go_wp2
    go_ret
    exact GotII.none (lb_no (show bnM m s = false by unfold bnM; rw [HOK.out, HOB.out]; rfl)) (Dr.below D2 _)
  have HOB := Lib.hid hHOB; clear hHOB
  have HR := Lib.hid (bn_rows HOB.out)
  have hsl := okBn_len HOB.out
  have HPO := Lib.hid (lb_yes HOK.out HOB.out)
  go_enter Try.func56, Try.ntmps56
  go_wp2_with fail
  refine (s_validModel (hm.dr D0) hlm).mono ?_
  rintro e w1 ⟨rfl, d1⟩
  rw [HOK.out]
  have D1 := Dr.trans D0 d1
  clear d1
  go_wp2_with fail
  refine (s_validBans (hm.dr D1) (hs.dr D1) HOK.out hls HG.out).mono ?_
  rintro e w2 ⟨rfl, d2⟩
  rw [HOB.out]
  have D3 := Dr.trans D1 d2
  clear d2
  have Z3 := Dr.le D3
  go_wp2_with fail
  refine (s_leastBans HOK.out (hm.dr D3) (by omega) (hs.dr D3) (by omega) (by omega) HR.out).mono ?_
  rintro e w4 ⟨a4, c4, rfl, h4, hb4⟩
  have hb03 := (Dr.below D3 w.heap.size).trans (hb4.mono (by omega))
  go_wp2
  go_ret
  rw [HPO.out]
  exact ⟨_, _, rfl, h4.wide (by omega) (Nat.le_refl _), hb03⟩

end Go.Proofs.Ytpfojkhgelmciaa
