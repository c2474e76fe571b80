/- What the walks are told of memory: a slice of numbers that reads as a list, a slice of such slices; which of a call's memory it owns; what a call may have turned. -/
import Derived.WalkKit
import Derived.WalkSpells
import Derived.WalkLawsBesides
import Derived.Lib.Hide
import Derived.Deep.Draws
import Derived.Deep.OwnRows
import Derived.Deep.QuietTactic
import Derived.BigQuiet
import Derived.Deep.RegionWith
import Derived.Test.YtpioldgpfpmjiaaGreatDoorProg
import Derived.Test.YtpioldgpfpmjiaaGreatDoorMath
namespace Go.Proofs.YtpioldgpfpmjiaaGreatDoor
open Go.RowKit

/-- A call that only reads: it returns v; the world has at most drawn. -/
def RO (w : World) (v : Value) (e : Ending) (w' : World) : Prop := e = .returned v ∧ ∃ n, w' = w.drewN n
theorem RO.same (w : World) (v : Value) : RO w v (.returned v) w := ⟨rfl, 0, rfl⟩
theorem RO.drew (w : World) (v : Value) (n : Nat) : RO w v (.returned v) (w.drewN n) := ⟨rfl, n, rfl⟩
theorem RO.mk {w w' : World} {v v' : Value} (h : v' = v) (hw : ∃ n, w' = w.drewN n) : RO w v (.returned v') w' := ⟨by rw [h], hw⟩
theorem RO.bool {w : World} {b c : Bool} (h : b = c) (n : Nat) : RO w (.bool c) (.returned (.bool b)) (w.drewN n) := ⟨by rw [h], n, rfl⟩
theorem RO.bool0 {w : World} {b c : Bool} (h : b = c) : RO w (.bool c) (.returned (.bool b)) w := ⟨by rw [h], 0, rfl⟩
theorem RO.bool2 {w : World} {b c : Bool} (h : b = c) (n m : Nat) : RO w (.bool c) (.returned (.bool b)) ((w.drewN n).drewN m) := ⟨by rw [h], n + m, World.drewN_drewN _ _ _⟩
theorem RO.int {w : World} {b c : Int} (h : b = c) (n : Nat) : RO w (.int .i64 c) (.returned (.int .i64 b)) (w.drewN n) := ⟨by rw [h], n, rfl⟩
theorem RO.int0 {w : World} {b c : Int} (h : b = c) : RO w (.int .i64 c) (.returned (.int .i64 b)) w := ⟨by rw [h], 0, rfl⟩
theorem RO.quiet {P : Program} {f : FuncId} {args : Array Value} {w : World} {n : Nat} {v : Value} (h : Calls P f args (w.drewN n) (RO (w.drewN n) v)) :
    Calls P f args (w.drewN n) fun e w'' => e = .returned v ∧ ∃ m, w'' = w.drewN m := Calls.quiet_of h

/-- the world has at most drawn -/
def Dr (w w' : World) : Prop := ∃ n, w' = w.drewN n
theorem Dr.refl (w : World) : Dr w w := ⟨0, rfl⟩
theorem Dr.drewN {w w' : World} (h : Dr w w') (n : Nat) : Dr w (w'.drewN n) := by
  obtain ⟨m, rfl⟩ := h
  exact ⟨m + n, World.drewN_drewN _ _ _⟩
theorem Dr.trans {a b c : World} (h : Dr a b) (k : Dr b c) : Dr a c := by
  obtain ⟨m, rfl⟩ := k
  exact h.drewN m
theorem Dr.boolD {w w' : World} {b c : Bool} (hd : Dr w w') (h : b = c) : RO w (.bool c) (.returned (.bool b)) w' := ⟨by rw [h], hd⟩
theorem Dr.intD {w w' : World} {b c : Int} (hd : Dr w w') (h : b = c) : RO w (.int .i64 c) (.returned (.int .i64 b)) w' := ⟨by rw [h], hd⟩
theorem Dr.below {w w' : World} (h : Dr w w') (B : Nat) : Below B w w' := by
  obtain ⟨m, rfl⟩ := h
  exact ⟨rfl, rfl, rfl, Nat.le_refl _, fun _ _ => rfl⟩
theorem Dr.le {w w' : World} (h : Dr w w') : w'.heap.size ≤ w.heap.size ∧ w.heap.size ≤ w'.heap.size := by
  obtain ⟨m, rfl⟩ := h
  exact ⟨Nat.le_refl _, Nat.le_refl _⟩
theorem Dr.size {w w' : World} (h : Dr w w') : w'.heap.size = w.heap.size := by
  obtain ⟨m, rfl⟩ := h
  rfl

theorem bdrew {B : Nat} {a w : World} (h : Below B a w) (n : Nat) : Below B a (w.drewN n) := ⟨h.os, h.tape, h.output, h.size, h.block⟩

/-- A slice of numbers that reads as m, in blocks lo ≤ b < hi. -/
def RI (w : World) (lo hi : Nat) (a : Option Addr) (m : List Int) : Prop :=
  ∀ k, k < m.length → ∃ b o, a = some ⟨b, o, none⟩ ∧ lo ≤ b ∧ b < hi ∧ ∃ x, m[k]? = some x ∧ w.cell? ⟨b, o + k, none⟩ = some (.int .i64 x)

theorem RI.at {w : World} {lo hi : Nat} {a : Option Addr} {m : List Int} (h : RI w lo hi a m) {k : Nat} (hk : k < m.length) :
    ∃ b o x, a = some ⟨b, o, none⟩ ∧ lo ≤ b ∧ b < hi ∧ w.cell? ⟨b, o + k, none⟩ = some (.int .i64 x) ∧ Hid (m[k]? = some x) := by
  obtain ⟨b, o, h1, h2, h3, x, h4, h5⟩ := h k hk
  exact ⟨b, o, x, h1, h2, h3, h5, h4⟩
theorem RI.same {w w' : World} {lo hi : Nat} {a : Option Addr} {m : List Int} (h : RI w lo hi a m) (hb : ∀ k, lo ≤ k → k < hi → w'.heap[k]? = w.heap[k]?) : RI w' lo hi a m := by
  intro k hk
  obtain ⟨b, o, h1, h2, h3, x, h4, h5⟩ := h k hk
  exact ⟨b, o, h1, h2, h3, x, h4, (World.cell?_of_block (w := w) (hb b h2 h3)).trans h5⟩
theorem RI.below {w w' : World} {lo hi B : Nat} {a : Option Addr} {m : List Int} (h : RI w lo hi a m) (hb : Below B w w') (hB : hi ≤ B) : RI w' lo hi a m :=
  h.same fun k _ h2 => hb.block k (by omega)
theorem RI.drewN {w : World} {lo hi : Nat} {a : Option Addr} {m : List Int} (h : RI w lo hi a m) (n : Nat) : RI (w.drewN n) lo hi a m := h
theorem RI.wide {w : World} {lo hi lo' hi' : Nat} {a : Option Addr} {m : List Int} (h : RI w lo hi a m) (h1 : lo' ≤ lo) (h2 : hi ≤ hi') : RI w lo' hi' a m := by
  intro k hk
  obtain ⟨b, o, e1, e2, e3, e4⟩ := h k hk
  exact ⟨b, o, e1, by omega, by omega, e4⟩

theorem RI.dr {w w' : World} {lo hi : Nat} {a : Option Addr} {m : List Int} (h : RI w lo hi a m) (hd : Dr w w') : RI w' lo hi a m := by
  obtain ⟨n, rfl⟩ := hd
  exact h

/-- .. that may be written: its cells are not frozen. -/
def OI (w : World) (lo hi : Nat) (a : Option Addr) (m : List Int) : Prop :=
  ∀ k, k < m.length → ∃ b o, a = some ⟨b, o, none⟩ ∧ lo ≤ b ∧ b < hi ∧ (∃ x, m[k]? = some x ∧ w.cell? ⟨b, o + k, none⟩ = some (.int .i64 x)) ∧ w.frozen? ⟨b, o + k, none⟩ = false
theorem OI.ri {w : World} {lo hi : Nat} {a : Option Addr} {m : List Int} (h : OI w lo hi a m) : RI w lo hi a m := by
  intro k hk
  obtain ⟨b, o, h1, h2, h3, h4, _⟩ := h k hk
  exact ⟨b, o, h1, h2, h3, h4⟩
theorem OI.same {w w' : World} {lo hi : Nat} {a : Option Addr} {m : List Int} (h : OI w lo hi a m) (hb : ∀ k, lo ≤ k → k < hi → w'.heap[k]? = w.heap[k]?) : OI w' lo hi a m := by
  intro k hk
  obtain ⟨b, o, h1, h2, h3, ⟨x, h4, h5⟩, h6⟩ := h k hk
  exact ⟨b, o, h1, h2, h3, ⟨x, h4, (World.cell?_of_block (w := w) (hb b h2 h3)).trans h5⟩, (World.frozen?_of_block (w := w) (hb b h2 h3)).trans h6⟩
theorem OI.below {w w' : World} {lo hi B : Nat} {a : Option Addr} {m : List Int} (h : OI w lo hi a m) (hb : Below B w w') (hB : hi ≤ B) : OI w' lo hi a m :=
  h.same fun k _ h2 => hb.block k (by omega)
theorem OI.of_row {w : World} {b t : Nat} {m : List Int} (h : w.rowIs b t m.length (fun i => .int .i64 (m.getD i 0))) : OI w b (b + 1) (some ⟨b, 0, none⟩) m := by
  intro k hk
  obtain ⟨x, hx⟩ := at_of_lt hk
  refine ⟨b, 0, rfl, Nat.le_refl _, Nat.lt_succ_self _, ⟨x, hx, ?_⟩, ?_⟩
  · rw [Nat.zero_add, h.cell hk]; simp [List.getD, hx]
  · rw [Nat.zero_add]; exact h.frozen k

/-- .. with its room -/
structure OIc (w : World) (lo hi : Nat) (a : Option Addr) (c : Nat) (m : List Int) : Prop where
  oi : OI w lo hi a m
  cap : m.length ≤ c
theorem OIc.ri {w : World} {lo hi c : Nat} {a : Option Addr} {m : List Int} (h : OIc w lo hi a c m) : RI w lo hi a m := h.oi.ri
theorem OIc.below {w w' : World} {lo hi B c : Nat} {a : Option Addr} {m : List Int} (h : OIc w lo hi a c m) (hb : Below B w w') (hB : hi ≤ B) : OIc w' lo hi a c m := ⟨h.oi.below hb hB, h.cap⟩
instance {w : World} {lo hi c : Nat} {a : Option Addr} {m : List Int} : CoeOut (OIc w lo hi a c m) (OI w lo hi a m) := ⟨OIc.oi⟩

/-- A call that makes a slice of numbers of its own: it reads as m, and nothing that was there has turned. -/
def NewI (w : World) (m : List Int) (e : Ending) (w' : World) : Prop :=
  ∃ a c, e = .returned (.slice a m.length c) ∧ OIc w' w.heap.size w'.heap.size a c m ∧ Below w.heap.size w w'
theorem NewI.of_row {w w' : World} {t c : Nat} {m : List Int} (hc : m.length ≤ c) (h : w'.rowIs w.heap.size t m.length (fun i => .int .i64 (m.getD i 0))) (hb : Below w.heap.size w w') :
    NewI w m (.returned (.slice (some ⟨w.heap.size, 0, none⟩) m.length c)) w' := by
  refine ⟨_, _, rfl, ⟨?_, hc⟩, hb⟩
  intro k hk
  obtain ⟨b, o, h1, h2, h3, h4⟩ := OI.of_row h k hk
  have hlt := h.lt
  exact ⟨b, o, h1, h2, by omega, h4⟩

/-- the filling of a row that was made -/
theorem row_step {w : World} {b t k : Nat} {m : List Int} {x : Int} (h : w.rowIs b t m.length (fun i => .int .i64 (if i < k then m.getD i 0 else 0))) (hx : m[k]? = some x) :
    (w.setCell ⟨b, k, none⟩ (.int .i64 x)).rowIs b t m.length (fun i => .int .i64 (if i < k + 1 then m.getD i 0 else 0)) := by
  refine (h.set k (.int .i64 x)).congr fun i hi => ?_
  by_cases e : i = k
  · subst e; simp [List.getD, hx]
  · simp only [e, if_false]
    have : i < k + 1 ↔ i < k := by omega
    simp [this]
theorem row_end {w : World} {b t k : Nat} {m : List Int} (h : w.rowIs b t m.length (fun i => .int .i64 (if i < k then m.getD i 0 else 0))) (hk : m.length ≤ k) :
    w.rowIs b t m.length (fun i => .int .i64 (m.getD i 0)) := h.congr fun i hi => by simp [show i < k by omega]
theorem row_start (w : World) (n t : Nat) (m : List Int) (hn : n = m.length) : (w.alloc (.cells (madeCells #[.int .i64 0] n) t)).rowIs w.heap.size t m.length (fun i => .int .i64 (if i < 0 then m.getD i 0 else 0)) := by
  subst hn
  exact (World.rowIs_made w (.int .i64 0) m.length t).congr fun i _ => by simp

/-- A slice of slices of numbers that reads as mm. -/
def RII (w : World) (lo hi : Nat) (a : Option Addr) (mm : List (List Int)) : Prop :=
  ∀ k, k < mm.length → ∃ b o a' c' r, a = some ⟨b, o, none⟩ ∧ lo ≤ b ∧ b < hi ∧ mm[k]? = some r ∧ w.cell? ⟨b, o + k, none⟩ = some (.slice a' r.length c') ∧ RI w lo hi a' r ∧ r.length ≤ c'
theorem RII.at {w : World} {lo hi : Nat} {a : Option Addr} {mm : List (List Int)} (h : RII w lo hi a mm) {k : Nat} (hk : k < mm.length) :
    ∃ b o a' c' r, a = some ⟨b, o, none⟩ ∧ lo ≤ b ∧ b < hi ∧ w.cell? ⟨b, o + k, none⟩ = some (.slice a' r.length c') ∧ RI w lo hi a' r ∧ Hid (mm[k]? = some r) := by
  obtain ⟨b, o, a', c', r, h1, h2, h3, h4, h5, h6, _⟩ := h k hk
  exact ⟨b, o, a', c', r, h1, h2, h3, h5, h6, h4⟩
theorem RII.atc {w : World} {lo hi : Nat} {a : Option Addr} {mm : List (List Int)} (h : RII w lo hi a mm) {k : Nat} (hk : k < mm.length) :
    ∃ b o a' c' r, a = some ⟨b, o, none⟩ ∧ lo ≤ b ∧ b < hi ∧ w.cell? ⟨b, o + k, none⟩ = some (.slice a' r.length c') ∧ RI w lo hi a' r ∧ Hid (mm[k]? = some r) ∧ r.length ≤ c' := by
  obtain ⟨b, o, a', c', r, h1, h2, h3, h4, h5, h6, h7⟩ := h k hk
  exact ⟨b, o, a', c', r, h1, h2, h3, h5, h6, h4, h7⟩
theorem RII.same {w w' : World} {lo hi : Nat} {a : Option Addr} {mm : List (List Int)} (h : RII w lo hi a mm) (hb : ∀ k, lo ≤ k → k < hi → w'.heap[k]? = w.heap[k]?) : RII w' lo hi a mm := by
  intro k hk
  obtain ⟨b, o, a', c', r, h1, h2, h3, h4, h5, h6, h7⟩ := h k hk
  exact ⟨b, o, a', c', r, h1, h2, h3, h4, (World.cell?_of_block (w := w) (hb b h2 h3)).trans h5, h6.same hb, h7⟩
theorem RII.below {w w' : World} {lo hi B : Nat} {a : Option Addr} {mm : List (List Int)} (h : RII w lo hi a mm) (hb : Below B w w') (hB : hi ≤ B) : RII w' lo hi a mm :=
  h.same fun k _ h2 => hb.block k (by omega)
theorem RII.wide {w : World} {lo hi lo' hi' : Nat} {a : Option Addr} {mm : List (List Int)} (h : RII w lo hi a mm) (h1 : lo' ≤ lo) (h2 : hi ≤ hi') : RII w lo' hi' a mm := by
  intro k hk
  obtain ⟨b, o, a', c', r, e1, e2, e3, e4, e5, e6, e7⟩ := h k hk
  exact ⟨b, o, a', c', r, e1, by omega, by omega, e4, e5, e6.wide h1 h2, e7⟩
theorem RII.dr {w w' : World} {lo hi : Nat} {a : Option Addr} {mm : List (List Int)} (h : RII w lo hi a mm) (hd : Dr w w') : RII w' lo hi a mm := by
  obtain ⟨n, rfl⟩ := hd
  exact h
theorem RII.nil (w : World) (lo hi : Nat) (a : Option Addr) : RII w lo hi a [] := fun k hk => by simp at hk
theorem RI.nil (w : World) (lo hi : Nat) (a : Option Addr) : RI w lo hi a [] := fun k hk => by simp at hk
theorem OI.nil (w : World) (lo hi : Nat) (a : Option Addr) : OI w lo hi a [] := fun k hk => by simp at hk

theorem OI.one {w : World} {lo hi : Nat} {a : Option Addr} {m : List Int} (h : OI w lo hi a m) : ∃ g, (m ≠ [] → lo ≤ g ∧ g < hi) ∧ OI w g (g + 1) a m := by
  cases m with
  | nil => exact ⟨0, fun h => absurd rfl h, OI.nil _ _ _ _⟩
  | cons x m =>
    obtain ⟨b, o, h1, h2, h3, _⟩ := h 0 (by simp)
    refine ⟨b, fun _ => ⟨h2, h3⟩, fun k hk => ?_⟩
    obtain ⟨b', o', e1, _, _, e4⟩ := h k hk
    have e : (⟨b, o, none⟩ : Addr) = ⟨b', o', none⟩ := by rw [h1] at e1; exact Option.some.inj e1
    obtain ⟨rfl, rfl⟩ : b = b' ∧ o = o' := by simpa using e
    exact ⟨b, o, h1, Nat.le_refl _, Nat.lt_succ_self _, e4⟩
/-- Rows that lie each in a block of its own, and may be written: row k in block G k. -/
structure Fam (w : World) (lo hi : Nat) (A : Nat → Option Addr) (G : Nat → Nat) (mm : List (List Int)) : Prop where
  row : ∀ k r, mm[k]? = some r → OI w (G k) (G k + 1) (A k) r
  rlo : ∀ k r, mm[k]? = some r → r ≠ [] → lo ≤ G k ∧ G k < hi
  dis : ∀ j k r r', j < k → mm[j]? = some r → mm[k]? = some r' → r ≠ [] → r' ≠ [] → G j ≠ G k
theorem Fam.nil (w : World) (lo hi : Nat) (A : Nat → Option Addr) (G : Nat → Nat) : Fam w lo hi A G [] := ⟨by simp, by simp, by simp⟩
theorem Fam.same {w w' : World} {lo hi : Nat} {A : Nat → Option Addr} {G : Nat → Nat} {mm : List (List Int)} (h : Fam w lo hi A G mm) (hb : ∀ k r, mm[k]? = some r → r ≠ [] → w'.heap[G k]? = w.heap[G k]?) : Fam w' lo hi A G mm where
  row := fun k r e => by
    by_cases hr : r = []
    · subst hr; exact OI.nil _ _ _ _
    · exact (h.row k r e).same fun j h1 h2 => by
        have : j = G k := by omega
        subst this; exact hb k r e hr
  rlo := h.rlo
  dis := h.dis
theorem Fam.wide {w : World} {lo hi lo' hi' : Nat} {A : Nat → Option Addr} {G : Nat → Nat} {mm : List (List Int)} (h : Fam w lo hi A G mm) (h1 : lo' ≤ lo) (h2 : hi ≤ hi') : Fam w lo' hi' A G mm :=
  ⟨h.row, fun k r e hr => by have := h.rlo k r e hr; omega, h.dis⟩
/-- one row more, in memory that is new -/
theorem Fam.push {w : World} {lo hi : Nat} {A : Nat → Option Addr} {G : Nat → Nat} {mm : List (List Int)} (h : Fam w lo hi A G mm) {hi' : Nat} {a : Option Addr} {r : List Int} (hr : OI w hi hi' a r) (hl : lo ≤ hi) (hh : hi ≤ hi') :
    ∃ g, Fam w lo hi' (fun j => if j = mm.length then a else A j) (fun j => if j = mm.length then g else G j) (mm ++ [r]) := by
  obtain ⟨g, h1, h2⟩ := hr.one
  have old : ∀ k r', (mm ++ [r])[k]? = some r' → k ≠ mm.length → mm[k]? = some r' := by
    intro k r' e hk
    have hlt := lt_of_at e
    simp at hlt
    rwa [List.getElem?_append_left (by omega)] at e
  have new : ∀ r', (mm ++ [r])[mm.length]? = some r' → r' = r := by
    intro r' e; simp at e; exact e.symm
  refine ⟨g, ⟨fun k r' e => ?_, fun k r' e hr' => ?_, fun j k r' r'' hjk e e' hr' hr'' => ?_⟩⟩
  · by_cases hk : k = mm.length
    · subst hk; rw [new r' e]; simpa using h2
    · simp only [hk, if_false]; exact h.row k r' (old k r' e hk)
  · by_cases hk : k = mm.length
    · subst hk; obtain rfl := new r' e; have := h1 hr'; simp; omega
    · simp only [hk, if_false]; have := h.rlo k r' (old k r' e hk) hr'; omega
  · have hlt := lt_of_at e'
    simp at hlt
    have hj : j ≠ mm.length := by omega
    simp only [hj, if_false]
    have hjG := h.rlo j r' (old j r' e hj) hr'
    by_cases hk : k = mm.length
    · subst hk; obtain rfl := new r'' e'; have := h1 hr''; simp; omega
    · simp only [hk, if_false]; exact h.dis j k r' r'' hjk (old j r' e hj) (old k r'' e' hk) hr' hr''

/-- .. with the slice that holds them, in block b. -/
structure Rws (w : World) (lo hi b o : Nat) (A : Nat → Option Addr) (C G : Nat → Nat) (mm : List (List Int)) : Prop where
  blo : lo ≤ b
  bhi : b < hi
  cell : ∀ k r, mm[k]? = some r → w.cell? ⟨b, o + k, none⟩ = some (.slice (A k) r.length (C k))
  cap : ∀ k r, mm[k]? = some r → r.length ≤ C k
  fam : Fam w lo hi A G mm
  off : ∀ k r, mm[k]? = some r → r ≠ [] → G k ≠ b
def OII (w : World) (lo hi : Nat) (a : Option Addr) (mm : List (List Int)) : Prop :=
  mm = [] ∨ ∃ b o A C G, a = some ⟨b, o, none⟩ ∧ Rws w lo hi b o A C G mm
theorem OII.nil (w : World) (lo hi : Nat) (a : Option Addr) : OII w lo hi a [] := .inl rfl
theorem Rws.same {w w' : World} {lo hi b o : Nat} {A : Nat → Option Addr} {C G : Nat → Nat} {mm : List (List Int)} (h : Rws w lo hi b o A C G mm) (hb : ∀ k, lo ≤ k → k < hi → w'.heap[k]? = w.heap[k]?) : Rws w' lo hi b o A C G mm where
  blo := h.blo
  bhi := h.bhi
  cell := fun k r e => (World.cell?_of_block (w := w) (hb b h.blo h.bhi)).trans (h.cell k r e)
  cap := h.cap
  fam := h.fam.same fun k r e hr => by have := h.fam.rlo k r e hr; exact hb _ this.1 this.2
  off := h.off
theorem OII.same {w w' : World} {lo hi : Nat} {a : Option Addr} {mm : List (List Int)} (h : OII w lo hi a mm) (hb : ∀ k, lo ≤ k → k < hi → w'.heap[k]? = w.heap[k]?) : OII w' lo hi a mm := by
  rcases h with h | ⟨b, o, A, C, G, ha, h⟩
  · exact .inl h
  · exact .inr ⟨b, o, A, C, G, ha, h.same hb⟩
theorem OII.below {w w' : World} {lo hi B : Nat} {a : Option Addr} {mm : List (List Int)} (h : OII w lo hi a mm) (hb : Below B w w') (hB : hi ≤ B) : OII w' lo hi a mm :=
  h.same fun k _ h2 => hb.block k (by omega)
theorem OII.rii {w : World} {lo hi : Nat} {a : Option Addr} {mm : List (List Int)} (h : OII w lo hi a mm) : RII w lo hi a mm := by
  intro k hk
  rcases h with rfl | ⟨b, o, A, C, G, ha, h⟩
  · simp at hk
  · obtain ⟨r, hr⟩ := at_of_lt hk
    refine ⟨b, o, A k, C k, r, ha, h.blo, h.bhi, hr, h.cell k r hr, ?_, h.cap k r hr⟩
    by_cases hn : r = []
    · subst hn; exact RI.nil _ _ _ _
    · have h1 := h.fam.rlo k r hr hn
      exact (h.fam.row k r hr).ri.wide h1.1 (by omega)
/-- .. with its room -/
structure RIIc (w : World) (lo hi : Nat) (a : Option Addr) (c : Nat) (mm : List (List Int)) : Prop where
  rii : RII w lo hi a mm
  cap : mm.length ≤ c
theorem RIIc.below {w w' : World} {lo hi B c : Nat} {a : Option Addr} {mm : List (List Int)} (h : RIIc w lo hi a c mm) (hb : Below B w w') (hB : hi ≤ B) : RIIc w' lo hi a c mm := ⟨h.rii.below hb hB, h.cap⟩
theorem RIIc.wide {w : World} {lo hi lo' hi' c : Nat} {a : Option Addr} {mm : List (List Int)} (h : RIIc w lo hi a c mm) (h1 : lo' ≤ lo) (h2 : hi ≤ hi') : RIIc w lo' hi' a c mm := ⟨h.rii.wide h1 h2, h.cap⟩
instance {w : World} {lo hi c : Nat} {a : Option Addr} {mm : List (List Int)} : CoeOut (RIIc w lo hi a c mm) (RII w lo hi a mm) := ⟨RIIc.rii⟩
/-- .. with its room, all of it one's own -/
structure OIIc (w : World) (lo hi : Nat) (a : Option Addr) (c : Nat) (mm : List (List Int)) : Prop where
  oii : OII w lo hi a mm
  cap : mm.length ≤ c
theorem OIIc.rii {w : World} {lo hi c : Nat} {a : Option Addr} {mm : List (List Int)} (h : OIIc w lo hi a c mm) : RII w lo hi a mm := h.oii.rii
theorem OIIc.below {w w' : World} {lo hi B c : Nat} {a : Option Addr} {mm : List (List Int)} (h : OIIc w lo hi a c mm) (hb : Below B w w') (hB : hi ≤ B) : OIIc w' lo hi a c mm := ⟨h.oii.below hb hB, h.cap⟩
instance {w : World} {lo hi c : Nat} {a : Option Addr} {mm : List (List Int)} : CoeOut (OIIc w lo hi a c mm) (OII w lo hi a mm) := ⟨OIIc.oii⟩
theorem OII.oii {w : World} {lo hi : Nat} {a : Option Addr} {mm : List (List Int)} (h : OII w lo hi a mm) : OII w lo hi a mm := h
theorem RI.ri {w : World} {lo hi : Nat} {a : Option Addr} {m : List Int} (h : RI w lo hi a m) : RI w lo hi a m := h
theorem OI.oi {w : World} {lo hi : Nat} {a : Option Addr} {m : List Int} (h : OI w lo hi a m) : OI w lo hi a m := h
theorem RII.rii {w : World} {lo hi : Nat} {a : Option Addr} {mm : List (List Int)} (h : RII w lo hi a mm) : RII w lo hi a mm := h
theorem OIIc.nil (w : World) (lo hi : Nat) (a : Option Addr) (c : Nat) : OIIc w lo hi a c [] := ⟨.inl rfl, Nat.zero_le _⟩
theorem RIIc.nil (w : World) (lo hi : Nat) (a : Option Addr) (c : Nat) : RIIc w lo hi a c [] := ⟨fun k hk => by simp at hk, Nat.zero_le _⟩
/-- A call that makes a slice of slices of numbers, all of it its own. -/
def NewII (w : World) (mm : List (List Int)) (e : Ending) (w' : World) : Prop :=
  ∃ a c, e = .returned (.slice a mm.length c) ∧ OIIc w' w.heap.size w'.heap.size a c mm ∧ Below w.heap.size w w'
/-- A call that makes a slice of slices of numbers whose rows may be shared. -/
def GotII (w : World) (mm : List (List Int)) (e : Ending) (w' : World) : Prop :=
  ∃ a c, e = .returned (.slice a mm.length c) ∧ RIIc w' w.heap.size w'.heap.size a c mm ∧ Below w.heap.size w w'

/-- the rows so far and a row of slices being filled -/
def Fill (w0 w : World) (t : Nat) (mm : List (List Int)) (k : Nat) : Prop :=
  ∃ f A C G, w.rowIs w0.heap.size t mm.length f ∧ Rws w w0.heap.size w.heap.size w0.heap.size 0 A C G (mm.take k)
theorem Fill.start (w : World) (n t : Nat) (mm : List (List Int)) (hn : n = mm.length) : Fill w (w.alloc (.cells (madeCells #[.slice none 0 0] n) t)) t mm 0 := by
  subst hn
  refine ⟨_, fun _ => none, fun _ => 0, fun _ => 0, World.rowIs_made w (.slice none 0 0) mm.length t, ⟨Nat.le_refl _, by simp, by simp, by simp, by simpa using Fam.nil _ _ _ _ _, by simp⟩⟩
theorem Fill.frozen {w0 w : World} {t : Nat} {mm : List (List Int)} {k : Nat} (h : Fill w0 w t mm k) (j : Nat) : w.frozen? ⟨w0.heap.size, j, none⟩ = false := by
  obtain ⟨_, _, _, _, h, _⟩ := h; exact h.frozen j
theorem Fill.cell {w0 w : World} {t : Nat} {mm : List (List Int)} {k : Nat} (h : Fill w0 w t mm k) {j : Nat} (hj : j < mm.length) : ∃ v, w.cell? ⟨w0.heap.size, j, none⟩ = some v := by
  obtain ⟨f, _, _, _, h, _⟩ := h; exact ⟨f j, h.cell hj⟩
theorem Fill.below {w0 w w' : World} {t : Nat} {mm : List (List Int)} {k : Nat} (h : Fill w0 w t mm k) (hb : Below w.heap.size w w') : Fill w0 w' t mm k := by
  obtain ⟨f, A, C, G, h1, h2⟩ := h
  refine ⟨f, A, C, G, h1.of_block (hb.block _ h1.lt), ?_⟩
  have h3 := h2.same (w' := w') fun j _ hj => hb.block j hj
  exact ⟨h3.blo, by have := h3.bhi; have := hb.size; omega, h3.cell, h3.cap, h3.fam.wide (Nat.le_refl _) hb.size, h3.off⟩
theorem Fill.step {w0 w w' : World} {t : Nat} {mm : List (List Int)} {k c : Nat} {a : Option Addr} {r : List Int} (h : Fill w0 w t mm k) (hr : mm[k]? = some r) (hn0 : OIc w' w.heap.size w'.heap.size a c r) (hb : Below w.heap.size w w') :
    Fill w0 (w'.setCell ⟨w0.heap.size, k, none⟩ (.slice a r.length c)) t mm (k + 1) := by
  obtain ⟨f, A, C, G, h1, h2⟩ := h
  have hn := hn0.oi
  have hk := lt_of_at hr
  have hlen : (mm.take k).length = k := by simp; omega
  have h1' := h1.of_block (hb.block _ h1.lt)
  have h2' := h2.same (w' := w') fun j _ hj => hb.block j hj
  obtain ⟨g, hg⟩ := h2'.fam.push hn (by have := h2.blo; have := h1.lt; omega) hb.size
  rw [hlen, ← take_snoc hr] at hg
  have hlt := h1.lt
  have hsz : (w'.setCell ⟨w0.heap.size, k, none⟩ (.slice a r.length c)).heap.size = w'.heap.size := by simp [World.setCell]
  have hoff : ∀ j r', (mm.take (k + 1))[j]? = some r' → r' ≠ [] → (fun j => if j = k then g else G j) j ≠ w0.heap.size := by
    intro j r' e hr'
    by_cases hj : j = k
    · subst hj
      have e2 : r' = r := by
        rw [take_snoc hr, List.getElem?_append_right (by omega), hlen] at e
        simpa using e.symm
      subst e2
      have h3 := hn 0 (by cases r' with | nil => exact absurd rfl hr' | cons _ _ => simp)
      obtain ⟨b, o, e1, e3, _⟩ := h3
      have h4 := hg.row j r' e 0 (by cases r' with | nil => exact absurd rfl hr' | cons _ _ => simp)
      simp only [if_true] at h4
      obtain ⟨b', o', e1', e3', e4', _⟩ := h4
      rw [e1] at e1'
      have := congrArg Addr.block (Option.some.inj e1')
      simp at this ⊢
      omega
    · simp only [hj, if_false]
      have hjl := lt_of_at e
      simp at hjl
      refine h2.off j r' ?_ hr'
      rw [take_snoc hr, List.getElem?_append_left (by omega)] at e
      exact e
  refine ⟨_, fun j => if j = k then a else A j, fun j => if j = k then c else C j, fun j => if j = k then g else G j, h1'.set k _, ⟨Nat.le_refl _, by rw [hsz]; have := hb.size; omega, ?_, fun j r' e => ?_, ?_, hoff⟩⟩
  · intro j r' e
    rw [Nat.zero_add, (h1'.set k _).cell (by have := lt_of_at e; simp at this; omega)]
    by_cases hj : j = k
    · subst hj
      have e2 : r' = r := by
        rw [take_snoc hr, List.getElem?_append_right (by omega), hlen] at e
        simpa using e.symm
      subst e2; simp
    · simp only [hj, if_false]
      have hjl := lt_of_at e
      simp at hjl
      rw [take_snoc hr, List.getElem?_append_left (by omega)] at e
      have h5 := h2'.cell j r' e
      rw [Nat.zero_add, h1'.cell (by omega)] at h5
      exact h5
  · by_cases hj : j = k
    · subst hj
      have e2 : r' = r := by
        rw [take_snoc hr, List.getElem?_append_right (by omega), hlen] at e
        simpa using e.symm
      subst e2; simpa using hn0.cap
    · simp only [hj, if_false]
      have hjl := lt_of_at e
      simp at hjl
      rw [take_snoc hr, List.getElem?_append_left (by omega)] at e
      exact h2.cap j r' e
  · rw [hsz]
    exact hg.same fun j r' e hr' => Below.heap_setCell _ _ _ _ (hoff j r' e hr')
theorem Fill.oii {w0 w : World} {t : Nat} {mm : List (List Int)} {k : Nat} (h : Fill w0 w t mm k) (hk : mm.length ≤ k) : OII w w0.heap.size w.heap.size (some ⟨w0.heap.size, 0, none⟩) mm := by
  obtain ⟨f, A, C, G, _, h2⟩ := h
  rw [List.take_of_length_le hk] at h2
  exact .inr ⟨_, _, _, _, _, rfl, h2⟩

/-- Of the blocks that were there only those from lo to hi may have turned. -/
structure Upd (lo hi : Nat) (w w' : World) : Prop where
  os : w'.os = w.os
  tape : w'.tape = w.tape
  output : w'.output = w.output
  size : w.heap.size ≤ w'.heap.size
  block : ∀ k, k < w.heap.size → (k < lo ∨ hi ≤ k) → w'.heap[k]? = w.heap[k]?
theorem Upd.refl (lo hi : Nat) (w : World) : Upd lo hi w w := ⟨rfl, rfl, rfl, Nat.le_refl _, fun _ _ _ => rfl⟩
theorem Upd.trans {lo hi : Nat} {a b c : World} (h : Upd lo hi a b) (k : Upd lo hi b c) : Upd lo hi a c :=
  ⟨k.os.trans h.os, k.tape.trans h.tape, k.output.trans h.output, Nat.le_trans h.size k.size, fun i hi ho => (k.block i (Nat.lt_of_lt_of_le hi h.size) ho).trans (h.block i hi ho)⟩
theorem Upd.wide {lo hi lo' hi' : Nat} {a b : World} (h : Upd lo hi a b) (h1 : lo' ≤ lo) (h2 : hi ≤ hi') : Upd lo' hi' a b :=
  ⟨h.os, h.tape, h.output, h.size, fun i hi ho => h.block i hi (by omega)⟩
theorem Upd.below {lo hi : Nat} {a b : World} (h : Upd lo hi a b) : Below (min lo a.heap.size) a b :=
  ⟨h.os, h.tape, h.output, h.size, fun i hi => h.block i (by omega) (.inl (by omega))⟩
theorem Upd.setCell {lo hi : Nat} {a w : World} (h : Upd lo hi a w) {p : Addr} (h1 : lo ≤ p.block) (h2 : p.block < hi) (u : Value) : Upd lo hi a (w.setCell p u) :=
  h.trans ⟨rfl, rfl, rfl, by simp [World.setCell], fun k _ ho => Below.heap_setCell _ _ _ _ (by omega)⟩
theorem RI.upd {w w' : World} {lo hi p q : Nat} {a : Option Addr} {m : List Int} (h : RI w lo hi a m) (hu : Upd p q w w') (hs : hi ≤ w.heap.size) (hd : hi ≤ p ∨ q ≤ lo) : RI w' lo hi a m :=
  h.same fun k h1 h2 => hu.block k (by omega) (by omega)
theorem OI.upd {w w' : World} {lo hi p q : Nat} {a : Option Addr} {m : List Int} (h : OI w lo hi a m) (hu : Upd p q w w') (hs : hi ≤ w.heap.size) (hd : hi ≤ p ∨ q ≤ lo) : OI w' lo hi a m :=
  h.same fun k h1 h2 => hu.block k (by omega) (by omega)
theorem RII.upd {w w' : World} {lo hi p q : Nat} {a : Option Addr} {m : List (List Int)} (h : RII w lo hi a m) (hu : Upd p q w w') (hs : hi ≤ w.heap.size) (hd : hi ≤ p ∨ q ≤ lo) : RII w' lo hi a m :=
  h.same fun k h1 h2 => hu.block k (by omega) (by omega)
theorem OII.upd {w w' : World} {lo hi p q : Nat} {a : Option Addr} {m : List (List Int)} (h : OII w lo hi a m) (hu : Upd p q w w') (hs : hi ≤ w.heap.size) (hd : hi ≤ p ∨ q ≤ lo) : OII w' lo hi a m :=
  h.same fun k h1 h2 => hu.block k (by omega) (by omega)
/-- an element is written -/
theorem OI.set {w : World} {lo hi b o j : Nat} {m : List Int} (h : OI w lo hi (some ⟨b, o, none⟩) m) (hj : j < m.length) (x : Int) : OI (w.setCell ⟨b, o + j, none⟩ (.int .i64 x)) lo hi (some ⟨b, o, none⟩) (m.set j x) := by
  intro k hk
  simp only [List.length_set] at hk
  obtain ⟨b', o', e1, h2, h3, ⟨y, h4, h5⟩, h6⟩ := h k hk
  obtain ⟨rfl, rfl⟩ : b = b' ∧ o = o' := by simpa using e1
  refine ⟨b, o, rfl, h2, h3, ?_, by rw [World.frozen?_setCell]; exact h6⟩
  by_cases hkj : k = j
  · subst hkj
    exact ⟨x, by simp [hk], World.cell?_setCell_same _ _ _ h5⟩
  · refine ⟨y, by rw [List.getElem?_set_ne (by omega)]; exact h4, ?_⟩
    have hne : (⟨b, o + j, none⟩ : Addr) ≠ ⟨b, o + k, none⟩ := by intro he; have := congrArg Addr.off he; simp at this; omega
    exact (World.cell?_setCell_other _ _ _ _ hne).trans h5
/-- a row is written: nothing else turns -/
theorem Rws.setRow {w w' : World} {lo hi b o : Nat} {A : Nat → Option Addr} {C G : Nat → Nat} {mm : List (List Int)} {j : Nat} {r r' : List Int} (h : Rws w lo hi b o A C G mm) (hs : hi ≤ w.heap.size) (hr : mm[j]? = some r) (hl : r'.length = r.length)
    (hn : r' ≠ [] → OI w' (G j) (G j + 1) (A j) r') (hu : ∀ k, k < w.heap.size → (r ≠ [] → k ≠ G j) → w'.heap[k]? = w.heap[k]?) : Rws w' lo hi b o A C G (mm.set j r') := by
  have old : ∀ k r1, (mm.set j r')[k]? = some r1 → k ≠ j → mm[k]? = some r1 := fun k r1 e hk => by rwa [List.getElem?_set_ne (by omega)] at e
  have new : ∀ r1, (mm.set j r')[j]? = some r1 → r1 = r' := fun r1 e => by rw [List.getElem?_set_self (lt_of_at hr)] at e; exact (Option.some.inj e).symm
  have emp : ∀ {x y : List Int}, x.length = y.length → (x ≠ [] ↔ y ≠ []) := fun {x y} e => by cases x <;> cases y <;> simp_all
  refine ⟨h.blo, h.bhi, fun k r1 e => ?_, fun k r1 e => (by
      by_cases hk : k = j
      · subst hk; obtain rfl := new r1 e; rw [hl]; exact h.cap k r hr
      · exact h.cap k r1 (old k r1 e hk)), ⟨fun k r1 e => ?_, fun k r1 e he => ?_, fun i k r1 r2 hik e e' he he' => ?_⟩, fun k r1 e he => ?_⟩
  · have hb : w'.heap[b]? = w.heap[b]? := hu b (by have := h.bhi; omega) fun hr0 => (h.off j r hr hr0).symm
    have hc : w'.cell? ⟨b, o + k, none⟩ = w.cell? ⟨b, o + k, none⟩ := World.cell?_of_block (w := w) (a := ⟨b, o + k, none⟩) hb
    rw [hc]
    by_cases hk : k = j
    · subst hk; obtain rfl := new r1 e; rw [hl]; exact h.cell k r hr
    · exact h.cell k r1 (old k r1 e hk)
  · by_cases hk : k = j
    · subst hk; obtain rfl := new r1 e
      by_cases he : r1 = []
      · subst he; exact OI.nil _ _ _ _
      · exact hn he
    · have e0 := old k r1 e hk
      by_cases he : r1 = []
      · subst he; exact OI.nil _ _ _ _
      · refine (h.fam.row k r1 e0).same fun i h1 h2 => ?_
        obtain rfl : i = G k := by omega
        have hlo := h.fam.rlo k r1 e0 he
        refine hu _ (by omega) fun hr0 hg => ?_
        rcases Nat.lt_or_gt_of_ne hk with hlt | hlt
        · exact h.fam.dis k j r1 r hlt e0 hr he hr0 hg
        · exact h.fam.dis j k r r1 hlt hr e0 hr0 he hg.symm
  · by_cases hk : k = j
    · subst hk; obtain rfl := new r1 e; exact h.fam.rlo k r hr ((emp hl).1 he)
    · exact h.fam.rlo k r1 (old k r1 e hk) he
  · have back : ∀ k r1, (mm.set j r')[k]? = some r1 → r1 ≠ [] → ∃ r2, mm[k]? = some r2 ∧ r2 ≠ [] := fun k r1 e he => by
      by_cases hk : k = j
      · subst hk; obtain rfl := new r1 e; exact ⟨r, hr, (emp hl).1 he⟩
      · exact ⟨r1, old k r1 e hk, he⟩
    obtain ⟨s1, e1, n1⟩ := back i r1 e he
    obtain ⟨s2, e2, n2⟩ := back k r2 e' he'
    exact h.fam.dis i k s1 s2 hik e1 e2 n1 n2
  · by_cases hk : k = j
    · subst hk; obtain rfl := new r1 e; exact h.off k r hr ((emp hl).1 he)
    · exact h.off k r1 (old k r1 e hk) he
/-- A call that returns q and turns only blocks from lo to hi. -/
def Wr (lo hi : Nat) (w : World) (q : Int) (R : World → Prop) (e : Ending) (w' : World) : Prop := e = .returned (.int .i64 q) ∧ R w' ∧ Upd lo hi w w' ∧ w'.heap.size = w.heap.size

theorem OII.wide {w : World} {lo hi lo' hi' : Nat} {a : Option Addr} {mm : List (List Int)} (h : OII w lo hi a mm) (h1 : lo' ≤ lo) (h2 : hi ≤ hi') : OII w lo' hi' a mm := by
  rcases h with h | ⟨b, o, A, C, G, ha, h⟩
  · exact .inl h
  · exact .inr ⟨b, o, A, C, G, ha, ⟨by have := h.blo; omega, by have := h.bhi; omega, h.cell, h.cap, h.fam.wide h1 h2, h.off⟩⟩
theorem OI.wide {w : World} {lo hi lo' hi' : Nat} {a : Option Addr} {m : List Int} (h : OI w lo hi a m) (h1 : lo' ≤ lo) (h2 : hi ≤ hi') : OI w lo' hi' a m := by
  intro k hk
  obtain ⟨b, o, e1, e2, e3, e4⟩ := h k hk
  exact ⟨b, o, e1, by omega, by omega, e4⟩
theorem OIc.wide {w : World} {lo hi lo' hi' c : Nat} {a : Option Addr} {m : List Int} (h : OIc w lo hi a c m) (h1 : lo' ≤ lo) (h2 : hi ≤ hi') : OIc w lo' hi' a c m := ⟨h.oi.wide h1 h2, h.cap⟩
theorem OIIc.wide {w : World} {lo hi lo' hi' c : Nat} {a : Option Addr} {mm : List (List Int)} (h : OIIc w lo hi a c mm) (h1 : lo' ≤ lo) (h2 : hi ≤ hi') : OIIc w lo' hi' a c mm := ⟨h.oii.wide h1 h2, h.cap⟩
theorem OIc.upd {w w' : World} {lo hi p q c : Nat} {a : Option Addr} {m : List Int} (h : OIc w lo hi a c m) (hu : Upd p q w w') (hs : hi ≤ w.heap.size) (hd : hi ≤ p ∨ q ≤ lo) : OIc w' lo hi a c m := ⟨h.oi.upd hu hs hd, h.cap⟩
theorem OIIc.upd {w w' : World} {lo hi p q c : Nat} {a : Option Addr} {mm : List (List Int)} (h : OIIc w lo hi a c mm) (hu : Upd p q w w') (hs : hi ≤ w.heap.size) (hd : hi ≤ p ∨ q ≤ lo) : OIIc w' lo hi a c mm := ⟨h.oii.upd hu hs hd, h.cap⟩
/-- a slice of one row -/
theorem OII.one {w : World} {lo hi t c : Nat} {a : Option Addr} {r : List Int} (h0 : OIc w lo hi a c r) (hl : lo ≤ w.heap.size) (hh : hi ≤ w.heap.size) :
    OII (w.alloc (.cells #[.slice a r.length c] t)) lo (w.heap.size + 1) (some ⟨w.heap.size, 0, none⟩) [r] := by
  have h := h0.oi
  have h' : OI (w.alloc (.cells #[.slice a r.length c] t)) lo hi a r := h.same fun k _ hk => Below.heap_alloc w _ k (by omega)
  obtain ⟨g, h1, h2⟩ := h'.one
  refine .inr ⟨w.heap.size, 0, fun _ => a, fun _ => c, fun _ => g, rfl, ⟨hl, by omega, fun k r' e => ?_, fun k r' e => (by
      have hk := lt_of_at e
      obtain rfl : k = 0 := by simpa using hk
      obtain rfl : r = r' := by simpa using e
      exact h0.cap), ⟨fun k r' e => ?_, fun k r' e he => ?_, fun j k r' r'' hjk e e' _ _ => ?_⟩, fun k r' e he => ?_⟩⟩
  · have hk := lt_of_at e
    obtain rfl : k = 0 := by simpa using hk
    obtain rfl : r = r' := by simpa using e
    rw [cell_of_row _ w.heap.size 0 _ t (0, 0) (heap_alloc_new w _)]
    rfl
  · have hk := lt_of_at e
    obtain rfl : k = 0 := by simpa using hk
    obtain rfl : r = r' := by simpa using e
    exact h2
  · have hk := lt_of_at e
    obtain rfl : k = 0 := by simpa using hk
    obtain rfl : r = r' := by simpa using e
    have := h1 he
    omega
  · have hk := lt_of_at e'
    simp at hk
    omega
  · have hk := lt_of_at e
    obtain rfl : k = 0 := by simpa using hk
    obtain rfl : r = r' := by simpa using e
    have := h1 he
    omega
/-- a call that makes a slice of slices of numbers, all of it its own, at a known place -/
def NewIIs (w : World) (mm : List (List Int)) (e : Ending) (w' : World) : Prop :=
  ∃ ad c, e = .returned (.slice (some ad) mm.length c) ∧ OIIc w' w.heap.size w'.heap.size (some ad) c mm ∧ Below w.heap.size w w'
theorem NewIIs.ii {w w' : World} {mm : List (List Int)} {e : Ending} (h : NewIIs w mm e w') : NewII w mm e w' := by
  obtain ⟨ad, c, h1, h2, h3⟩ := h
  exact ⟨_, c, h1, h2, h3⟩

/-- From where a law began till here nothing that was there has turned. -/
theorem bnext {a w w' : World} (h : Below a.heap.size a w) (hb : Below w.heap.size w w') : Below a.heap.size a w' := h.trans (hb.mono h.size)

theorem bupd {a w w' : World} {lo hi : Nat} (h : Below a.heap.size a w) (hu : Upd lo hi w w') (hl : a.heap.size ≤ lo) : Below a.heap.size a w' :=
  h.trans ⟨hu.os, hu.tape, hu.output, hu.size, fun k hk => hu.block k (by have := h.size; omega) (.inl (by omega))⟩
theorem eq_le {a b : Nat} (h : a = b) : a ≤ b ∧ b ≤ a := by omega

/-- What a law's call comes to: true, and nothing that was there has turned. -/
def Tru (w : World) (e : Ending) (w' : World) : Prop := e = .returned (.bool true) ∧ Below w.heap.size w w'

/-- Where a one-cell element of a slice lies: an equation for the walk. -/
theorem idx_run {P : Program} {t e : TypeId} (ht : P.underlying t = some (.slice e)) (hs : ∀ w, (sizeOf e).run P w = .ok 1 w) {a : Option Addr} {len k b o : Nat} (ha : a = some ⟨b, o, none⟩) (hk : k < len) (cap : Nat) (wx : World) :
    (Instr.indexAt t (.slice a len cap) (.int .i64 (k : Int))).run P wx = .ok (.pointer (some ⟨b, o + k, none⟩)) wx := by
  subst ha
  have h1 := hs wx
  simp [Instr.indexAt, run_underlying ht, asIntOf, h1, hk, Addr.add]

end Go.Proofs.YtpioldgpfpmjiaaGreatDoor
