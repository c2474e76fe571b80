/- strings.Split at a separator of one byte, by the library's contract; the pieces of a text. -/
import Derived.Test.YtpioldgpfpmjiaaGreatDoorOwn
import Derived.Shelf.Strings.Split
namespace Go.Proofs.YtpioldgpfpmjiaaGreatDoor
open Go Go.Shelf Go.RowKit

/-- the pieces of a text between the bytes c; acc: what of the piece at hand lies behind -/
def spG (c : UInt8) : List UInt8 → List UInt8 → List (List UInt8)
  | [], acc => [acc]
  | x :: xs, acc => if x = c then acc :: spG c xs [] else spG c xs (acc ++ [x])
def pcs (c : UInt8) (s : ByteArray) : List ByteArray := (spG c s.data.toList []).map fun l => ⟨l.toArray⟩
theorem spG_hit (c : UInt8) (xs acc : List UInt8) : spG c (c :: xs) acc = acc :: spG c xs [] := by rw [spG, if_pos rfl]
theorem spG_miss {c x : UInt8} (h : x ≠ c) (xs acc : List UInt8) : spG c (x :: xs) acc = spG c xs (acc ++ [x]) := by rw [spG, if_neg h]
theorem spG_len (c : UInt8) : ∀ (xs acc : List UInt8), (spG c xs acc).length = xs.count c + 1
  | [], _ => by simp [spG]
  | x :: xs, acc => by
    by_cases h : x = c
    · subst h; rw [spG_hit, List.length_cons, spG_len, List.count_cons_self]
    · rw [spG_miss h, spG_len, List.count_cons_of_ne h]
/-- no piece is longer than the text -/
theorem spG_le (c : UInt8) : ∀ (xs acc : List UInt8) (p : List UInt8), p ∈ spG c xs acc → p.length ≤ acc.length + xs.length
  | [], acc, p, h => by simp [spG] at h; subst h; simp
  | x :: xs, acc, p, h => by
    by_cases hx : x = c
    · subst hx
      rw [spG_hit] at h
      rcases List.mem_cons.1 h with rfl | h
      · simp
      · have := spG_le x xs [] p h; simp at this ⊢; omega
    · rw [spG_miss hx] at h
      have := spG_le c xs _ p h; simp at this ⊢; omega
theorem idx_acc (c : UInt8) (acc xs : List UInt8) (h : c ∉ acc) : Lib.index (acc ++ c :: xs) [c] = acc.length := by
  rw [Lib.index_one]
  induction acc with
  | nil => simp [Lib.indexByte]
  | cons a l ih =>
    have h1 : (a == c) = false := by rw [beq_eq_false_iff_ne]; intro e; exact h (by simp [e])
    have h2 := ih (fun e => h (by simp [e]))
    rw [List.cons_append, Lib.indexByte, h1, h2]
    have h3 : ((l.length : Int) == -1) = false := by rw [beq_eq_false_iff_ne]; omega
    rw [h3]; simp
theorem splitK_spG (c : UInt8) : ∀ (xs acc : List UInt8), c ∉ acc → Lib.splitK [c] 0 (xs.count c) (acc ++ xs) = spG c xs acc
  | [], acc, _ => by simp [Lib.splitK, spG]
  | x :: xs, acc, h => by
    by_cases hx : x = c
    · subst hx
      rw [spG_hit, List.count_cons_self, Lib.splitK, idx_acc x acc xs h]
      have h3 : ((acc.length : Int) == -1) = false := by rw [beq_eq_false_iff_ne]; omega
      rw [h3]
      have ih := splitK_spG x xs [] (by simp)
      rw [List.nil_append] at ih
      have e1 : (acc ++ x :: xs).take ((acc.length : Int).toNat + 0) = acc := by simp
      have e2 : (acc ++ x :: xs).drop ((acc.length : Int).toNat + [x].length) = xs := by simp
      rw [e1, e2, ih]; simp
    · rw [spG_miss hx, List.count_cons_of_ne hx]
      have ih := splitK_spG c xs (acc ++ [x]) (by simp; exact ⟨h, fun e => hx e.symm⟩)
      rw [List.append_assoc] at ih
      exact ih
theorem splitB_pcs (c : UInt8) (s : ByteArray) : Lib.splitB ⟨#[c]⟩ 0 (Lib.countB s ⟨#[c]⟩) s = pcs c s := by
  have h := Lib.splitB_data ⟨#[c]⟩ 0 (Lib.countB s ⟨#[c]⟩) s
  have hc : Lib.countB s ⟨#[c]⟩ = s.data.toList.count c := Lib.count_one c s.data.toList
  have h2 := splitK_spG c s.data.toList [] (by simp)
  rw [List.nil_append] at h2
  have e : (⟨#[c]⟩ : ByteArray).data.toList = [c] := rfl
  rw [hc, e, h2] at h
  rw [hc]
  unfold pcs
  rw [← h, List.map_map]
  refine (List.map_id _).symm.trans (List.map_congr_left fun b _ => ?_)
  rfl
theorem pcs_ne (c : UInt8) (s : ByteArray) : pcs c s ≠ [] := by
  intro h
  have := congrArg List.length h
  unfold pcs at this
  rw [List.length_map, spG_len] at this
  simp at this
theorem pcs_len (c : UInt8) (s : ByteArray) : (pcs c s).length ≤ s.size + 1 := by
  unfold pcs
  rw [List.length_map, spG_len]
  have := List.count_le_length (a := c) (l := s.data.toList)
  have h2 : s.data.toList.length = s.size := by simp
  omega
theorem pcs_size {c : UInt8} {s p : ByteArray} (h : p ∈ pcs c s) : p.size ≤ s.size := by
  unfold pcs at h
  obtain ⟨l, hl, rfl⟩ := List.mem_map.1 h
  have := spG_le c _ _ l hl
  simp at this
  show l.toArray.size ≤ _
  simp; omega

def splitRen : Ren where
  f := fun x => match x with
    | 146 => 47
    | 221 => 57
    | 268 => 65
    | 138 => 66
    | 143 => 67
    | 195 => 76
    | 197 => 77
    | 218 => 78
    | 219 => 79
    | 260 => 92
    | 217 => 93
    | 225 => 94
    | 224 => 95
    | 267 => 96
    | 266 => 109
    | 314 => 110
    | n => n
  t := fun x => match x with
    | 9 => 9
    | 31 => 22
    | 3 => 3
    | 4 => 4
    | 0 => 0
    | 105 => 114
    | 21 => 21
    | 5 => 5
    | 46 => 127
    | 119 => 142
    | 139 => 145
    | 138 => 144
    | 146 => 147
    | 51 => 146
    | n => n
  g := fun x => match x with
    | 1 => 2
    | 3 => 3
    | 4 => 4
    | n => n

set_option maxRecDepth 100000 in
theorem splitLays : Lays.n146 Tryz.prog splitRen := by
  constructor <;> first | kernel_rfl | (intro w; kernel_rfl)

set_option maxRecDepth 100000 in
theorem infoStr9 : (Tryz.prog.info? (splitRen.t 9)).map (fun i => (i.zero, i.size, i.bytes)) = some (some (.string ByteArray.empty), 1, 16) := by kernel_rfl

set_option maxRecDepth 100000 in
set_option maxHeartbeats 4000000 in
theorem x_Split1 (s : ByteArray) (c : UInt8) (w : World) (hs : s.size ≤ 1048577) :
    Calls Tryz.prog 47 #[.string s, .string ⟨#[c]⟩] w (fun e w' => e = .returned (.slice (some ⟨w.heap.size, 0, none⟩) (pcs c s).length (pcs c s).length) ∧ w' = w.alloc (.cells ((pcs c s).map Value.string).toArray 9)) := by
  have L := splitLays
  have h1 : 1 ≤ (⟨#[c]⟩ : ByteArray).size := Nat.le_refl _
  have hle := Lib.countB_le ⟨#[c]⟩ h1 s.size s (Nat.le_refl _)
  have hlen := Lib.splitB_all ⟨#[c]⟩ h1 0 _ s rfl
  have hcnt : Calls Tryz.prog (splitRen.f 138) #[.string s, .string ⟨#[c]⟩] w fun e w' => e = .returned (.int .i64 (Lib.countB s ⟨#[c]⟩)) ∧ w' = w := by
    refine (Any.strings_Count_one { L with } s c w).mono fun e w' ⟨he, hw⟩ => ⟨?_, hw⟩
    rw [he]
    show _ = Ending.returned (Value.int .i64 ((Lib.count s.data.toList [c] : Nat) : Int))
    rw [Lib.count_one]
    rfl
  have cc := Any.strings_genSplit_core { L with } infoStr9 s ⟨#[c]⟩ 0 (-1) (Lib.countB s ⟨#[c]⟩ + 1) w (by omega) h1 (Nat.zero_le _)
    (fun x cs _ => (Any.strings_Index_one { L with } x c (w.alloc (.cells cs (splitRen.t 9)))).mono fun e w' ⟨he, hw⟩ => ⟨by rw [he]; show _ = Ending.returned (Value.int .i64 (Lib.index x.data.toList [c])); rw [Lib.index_one], hw⟩)
    hcnt (by decide) (by decide) (by rw [if_pos (by decide)]; omega)
  rw [Nat.add_sub_cancel, hlen] at cc
  have e2 : Lib.cellsOf (Lib.splitB ⟨#[c]⟩ 0 (Lib.countB s ⟨#[c]⟩) s) (Lib.countB s ⟨#[c]⟩ + 1) = ((Lib.splitB ⟨#[c]⟩ 0 (Lib.countB s ⟨#[c]⟩) s).map Value.string).toArray := by rw [← hlen]; exact Lib.cellsOf_full _
  rw [e2, splitB_pcs, show Lib.countB s ⟨#[c]⟩ + 1 = (pcs c s).length from by rw [← splitB_pcs, hlen]] at cc
  have hcc : Calls Tryz.prog 57 #[.string s, .string ⟨#[c]⟩, .int .i64 0, .int .i64 (-1)] w (fun e w' => e = .returned (.slice (some ⟨w.heap.size, 0, none⟩) (pcs c s).length (pcs c s).length) ∧ w' = w.alloc (.cells ((pcs c s).map Value.string).toArray 9)) := cc
  have HC := Lib.hid hcc
  clear cc hcc hcnt e2 hlen hle L
  go_enter Tryz.func47, Tryz.ntmps47
  go_wp2_with fail
  refine HC.out.mono ?_
  rintro e w' ⟨rfl, hw⟩
  go_wp2
  go_ret
  exact ⟨rfl, by first | rfl | exact hw⟩

end Go.Proofs.YtpioldgpfpmjiaaGreatDoor
