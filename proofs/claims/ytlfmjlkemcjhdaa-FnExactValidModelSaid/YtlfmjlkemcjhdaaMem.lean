/- What the walks are told of memory: a slice of numbers that reads as a list, a slice of such slices; which of a call's memory it owns; what a call may have turned. -/
import Derived.WalkKit
import Derived.WalkSpells
import Derived.WalkLawsBesides
import Derived.Lib.Hide
import Derived.Deep.Draws
import Derived.Deep.OwnRows
import Derived.Deep.QuietTactic
import Derived.BigQuiet
import Derived.Deep.RegionWith
import Derived.Test.YtlfmjlkemcjhdaaProg
import Derived.Test.YtlfmjlkemcjhdaaMath
namespace Go.Proofs.Ytlfmjlkemcjhdaa
open Go.RowKit

/-- A call that only reads: it returns v; the world has at most drawn. -/
def RO (w : World) (v : Value) (e : Ending) (w' : World) : Prop := e = .returned v ∧ ∃ n, w' = w.drewN n
theorem RO.same (w : World) (v : Value) : RO w v (.returned v) w := ⟨rfl, 0, rfl⟩
theorem RO.drew (w : World) (v : Value) (n : Nat) : RO w v (.returned v) (w.drewN n) := ⟨rfl, n, rfl⟩
theorem RO.mk {w w' : World} {v v' : Value} (h : v' = v) (hw : ∃ n, w' = w.drewN n) : RO w v (.returned v') w' := ⟨by rw [h], hw⟩
theorem RO.bool {w : World} {b c : Bool} (h : b = c) (n : Nat) : RO w (.bool c) (.returned (.bool b)) (w.drewN n) := ⟨by rw [h], n, rfl⟩
theorem RO.bool0 {w : World} {b c : Bool} (h : b = c) : RO w (.bool c) (.returned (.bool b)) w := ⟨by rw [h], 0, rfl⟩
theorem RO.bool2 {w : World} {b c : Bool} (h : b = c) (n m : Nat) : RO w (.bool c) (.returned (.bool b)) ((w.drewN n).drewN m) := ⟨by rw [h], n + m, World.drewN_drewN _ _ _⟩
theorem RO.int {w : World} {b c : Int} (h : b = c) (n : Nat) : RO w (.int .i64 c) (.returned (.int .i64 b)) (w.drewN n) := ⟨by rw [h], n, rfl⟩
theorem RO.int0 {w : World} {b c : Int} (h : b = c) : RO w (.int .i64 c) (.returned (.int .i64 b)) w := ⟨by rw [h], 0, rfl⟩
theorem RO.quiet {P : Program} {f : FuncId} {args : Array Value} {w : World} {n : Nat} {v : Value} (h : Calls P f args (w.drewN n) (RO (w.drewN n) v)) :
    Calls P f args (w.drewN n) fun e w'' => e = .returned v ∧ ∃ m, w'' = w.drewN m := Calls.quiet_of h

theorem bdrew {B : Nat} {a w : World} (h : Below B a w) (n : Nat) : Below B a (w.drewN n) := ⟨h.os, h.tape, h.output, h.size, h.block⟩

/-- A slice of numbers that reads as m, in blocks lo ≤ b < hi. -/
def RI (w : World) (lo hi : Nat) (a : Option Addr) (m : List Int) : Prop :=
  ∀ k, k < m.length → ∃ b o, a = some ⟨b, o, none⟩ ∧ lo ≤ b ∧ b < hi ∧ ∃ x, m[k]? = some x ∧ w.cell? ⟨b, o + k, none⟩ = some (.int .i64 x)

theorem RI.at {w : World} {lo hi : Nat} {a : Option Addr} {m : List Int} (h : RI w lo hi a m) {k : Nat} (hk : k < m.length) :
    ∃ b o x, a = some ⟨b, o, none⟩ ∧ lo ≤ b ∧ b < hi ∧ w.cell? ⟨b, o + k, none⟩ = some (.int .i64 x) ∧ Hid (m[k]? = some x) := by
  obtain ⟨b, o, h1, h2, h3, x, h4, h5⟩ := h k hk
  exact ⟨b, o, x, h1, h2, h3, h5, h4⟩
theorem RI.same {w w' : World} {lo hi : Nat} {a : Option Addr} {m : List Int} (h : RI w lo hi a m) (hb : ∀ k, lo ≤ k → k < hi → w'.heap[k]? = w.heap[k]?) : RI w' lo hi a m := by
  intro k hk
  obtain ⟨b, o, h1, h2, h3, x, h4, h5⟩ := h k hk
  exact ⟨b, o, h1, h2, h3, x, h4, (World.cell?_of_block (w := w) (hb b h2 h3)).trans h5⟩
theorem RI.below {w w' : World} {lo hi B : Nat} {a : Option Addr} {m : List Int} (h : RI w lo hi a m) (hb : Below B w w') (hB : hi ≤ B) : RI w' lo hi a m :=
  h.same fun k _ h2 => hb.block k (by omega)
theorem RI.drewN {w : World} {lo hi : Nat} {a : Option Addr} {m : List Int} (h : RI w lo hi a m) (n : Nat) : RI (w.drewN n) lo hi a m := h
theorem RI.wide {w : World} {lo hi lo' hi' : Nat} {a : Option Addr} {m : List Int} (h : RI w lo hi a m) (h1 : lo' ≤ lo) (h2 : hi ≤ hi') : RI w lo' hi' a m := by
  intro k hk
  obtain ⟨b, o, e1, e2, e3, e4⟩ := h k hk
  exact ⟨b, o, e1, by omega, by omega, e4⟩

/-- .. that may be written: its cells are not frozen. -/
def OI (w : World) (lo hi : Nat) (a : Option Addr) (m : List Int) : Prop :=
  ∀ k, k < m.length → ∃ b o, a = some ⟨b, o, none⟩ ∧ lo ≤ b ∧ b < hi ∧ (∃ x, m[k]? = some x ∧ w.cell? ⟨b, o + k, none⟩ = some (.int .i64 x)) ∧ w.frozen? ⟨b, o + k, none⟩ = false
theorem OI.ri {w : World} {lo hi : Nat} {a : Option Addr} {m : List Int} (h : OI w lo hi a m) : RI w lo hi a m := by
  intro k hk
  obtain ⟨b, o, h1, h2, h3, h4, _⟩ := h k hk
  exact ⟨b, o, h1, h2, h3, h4⟩
theorem OI.same {w w' : World} {lo hi : Nat} {a : Option Addr} {m : List Int} (h : OI w lo hi a m) (hb : ∀ k, lo ≤ k → k < hi → w'.heap[k]? = w.heap[k]?) : OI w' lo hi a m := by
  intro k hk
  obtain ⟨b, o, h1, h2, h3, ⟨x, h4, h5⟩, h6⟩ := h k hk
  exact ⟨b, o, h1, h2, h3, ⟨x, h4, (World.cell?_of_block (w := w) (hb b h2 h3)).trans h5⟩, (World.frozen?_of_block (w := w) (hb b h2 h3)).trans h6⟩
theorem OI.below {w w' : World} {lo hi B : Nat} {a : Option Addr} {m : List Int} (h : OI w lo hi a m) (hb : Below B w w') (hB : hi ≤ B) : OI w' lo hi a m :=
  h.same fun k _ h2 => hb.block k (by omega)
theorem OI.of_row {w : World} {b t : Nat} {m : List Int} (h : w.rowIs b t m.length (fun i => .int .i64 (m.getD i 0))) : OI w b (b + 1) (some ⟨b, 0, none⟩) m := by
  intro k hk
  obtain ⟨x, hx⟩ := at_of_lt hk
  refine ⟨b, 0, rfl, Nat.le_refl _, Nat.lt_succ_self _, ⟨x, hx, ?_⟩, ?_⟩
  · rw [Nat.zero_add, h.cell hk]; simp [List.getD, hx]
  · rw [Nat.zero_add]; exact h.frozen k

/-- A call that makes a slice of numbers of its own: it reads as m, and nothing that was there has turned. -/
def NewI (w : World) (m : List Int) (e : Ending) (w' : World) : Prop :=
  ∃ a c, e = .returned (.slice a m.length c) ∧ OI w' w.heap.size w'.heap.size a m ∧ Below w.heap.size w w'
theorem NewI.of_row {w w' : World} {t c : Nat} {m : List Int} (h : w'.rowIs w.heap.size t m.length (fun i => .int .i64 (m.getD i 0))) (hb : Below w.heap.size w w') :
    NewI w m (.returned (.slice (some ⟨w.heap.size, 0, none⟩) m.length c)) w' := by
  refine ⟨_, _, rfl, ?_, hb⟩
  intro k hk
  obtain ⟨b, o, h1, h2, h3, h4⟩ := OI.of_row h k hk
  have hlt := h.lt
  exact ⟨b, o, h1, h2, by omega, h4⟩

/-- the filling of a row that was made -/
theorem row_step {w : World} {b t k : Nat} {m : List Int} {x : Int} (h : w.rowIs b t m.length (fun i => .int .i64 (if i < k then m.getD i 0 else 0))) (hx : m[k]? = some x) :
    (w.setCell ⟨b, k, none⟩ (.int .i64 x)).rowIs b t m.length (fun i => .int .i64 (if i < k + 1 then m.getD i 0 else 0)) := by
  refine (h.set k (.int .i64 x)).congr fun i hi => ?_
  by_cases e : i = k
  · subst e; simp [List.getD, hx]
  · simp only [e, if_false]
    have : i < k + 1 ↔ i < k := by omega
    simp [this]
theorem row_end {w : World} {b t k : Nat} {m : List Int} (h : w.rowIs b t m.length (fun i => .int .i64 (if i < k then m.getD i 0 else 0))) (hk : m.length ≤ k) :
    w.rowIs b t m.length (fun i => .int .i64 (m.getD i 0)) := h.congr fun i hi => by simp [show i < k by omega]
theorem row_start (w : World) (n t : Nat) (m : List Int) (hn : n = m.length) : (w.alloc (.cells (madeCells #[.int .i64 0] n) t)).rowIs w.heap.size t m.length (fun i => .int .i64 (if i < 0 then m.getD i 0 else 0)) := by
  subst hn
  exact (World.rowIs_made w (.int .i64 0) m.length t).congr fun i _ => by simp

/-- A slice of slices of numbers that reads as mm. -/
def RII (w : World) (lo hi : Nat) (a : Option Addr) (mm : List (List Int)) : Prop :=
  ∀ k, k < mm.length → ∃ b o a' c' r, a = some ⟨b, o, none⟩ ∧ lo ≤ b ∧ b < hi ∧ mm[k]? = some r ∧ w.cell? ⟨b, o + k, none⟩ = some (.slice a' r.length c') ∧ RI w lo hi a' r
theorem RII.at {w : World} {lo hi : Nat} {a : Option Addr} {mm : List (List Int)} (h : RII w lo hi a mm) {k : Nat} (hk : k < mm.length) :
    ∃ b o a' c' r, a = some ⟨b, o, none⟩ ∧ lo ≤ b ∧ b < hi ∧ w.cell? ⟨b, o + k, none⟩ = some (.slice a' r.length c') ∧ RI w lo hi a' r ∧ Hid (mm[k]? = some r) := by
  obtain ⟨b, o, a', c', r, h1, h2, h3, h4, h5, h6⟩ := h k hk
  exact ⟨b, o, a', c', r, h1, h2, h3, h5, h6, h4⟩
theorem RII.same {w w' : World} {lo hi : Nat} {a : Option Addr} {mm : List (List Int)} (h : RII w lo hi a mm) (hb : ∀ k, lo ≤ k → k < hi → w'.heap[k]? = w.heap[k]?) : RII w' lo hi a mm := by
  intro k hk
  obtain ⟨b, o, a', c', r, h1, h2, h3, h4, h5, h6⟩ := h k hk
  exact ⟨b, o, a', c', r, h1, h2, h3, h4, (World.cell?_of_block (w := w) (hb b h2 h3)).trans h5, h6.same hb⟩
theorem RII.below {w w' : World} {lo hi B : Nat} {a : Option Addr} {mm : List (List Int)} (h : RII w lo hi a mm) (hb : Below B w w') (hB : hi ≤ B) : RII w' lo hi a mm :=
  h.same fun k _ h2 => hb.block k (by omega)
theorem RII.wide {w : World} {lo hi lo' hi' : Nat} {a : Option Addr} {mm : List (List Int)} (h : RII w lo hi a mm) (h1 : lo' ≤ lo) (h2 : hi ≤ hi') : RII w lo' hi' a mm := by
  intro k hk
  obtain ⟨b, o, a', c', r, e1, e2, e3, e4, e5, e6⟩ := h k hk
  exact ⟨b, o, a', c', r, e1, by omega, by omega, e4, e5, e6.wide h1 h2⟩
theorem RII.nil (w : World) (lo hi : Nat) (a : Option Addr) : RII w lo hi a [] := fun k hk => by simp at hk
theorem RI.nil (w : World) (lo hi : Nat) (a : Option Addr) : RI w lo hi a [] := fun k hk => by simp at hk
theorem OI.nil (w : World) (lo hi : Nat) (a : Option Addr) : OI w lo hi a [] := fun k hk => by simp at hk

/-- .. of rows that lie each in a block of its own, and may be written: row k in block G k. -/
structure Rws (w : World) (lo hi b o : Nat) (A : Nat → Option Addr) (C G : Nat → Nat) (mm : List (List Int)) : Prop where
  blo : lo ≤ b
  bhi : b < hi
  cell : ∀ k r, mm[k]? = some r → w.cell? ⟨b, o + k, none⟩ = some (.slice (A k) r.length (C k))
  row : ∀ k r, mm[k]? = some r → OI w (G k) (G k + 1) (A k) r
  rlo : ∀ k, k < mm.length → lo ≤ G k ∧ G k < hi ∧ G k ≠ b
  dis : ∀ j k, j < k → k < mm.length → G j ≠ G k
def OII (w : World) (lo hi : Nat) (a : Option Addr) (mm : List (List Int)) : Prop :=
  mm = [] ∨ ∃ b o A C G, a = some ⟨b, o, none⟩ ∧ Rws w lo hi b o A C G mm
theorem OII.nil (w : World) (lo hi : Nat) (a : Option Addr) : OII w lo hi a [] := .inl rfl
theorem Rws.same {w w' : World} {lo hi b o : Nat} {A : Nat → Option Addr} {C G : Nat → Nat} {mm : List (List Int)} (h : Rws w lo hi b o A C G mm) (hb : ∀ k, lo ≤ k → k < hi → w'.heap[k]? = w.heap[k]?) : Rws w' lo hi b o A C G mm where
  blo := h.blo
  bhi := h.bhi
  cell := fun k r e => (World.cell?_of_block (w := w) (hb b h.blo h.bhi)).trans (h.cell k r e)
  row := fun k r e => (h.row k r e).same fun j h1 h2 => by
    have := h.rlo k (lt_of_at e)
    exact hb j (by omega) (by omega)
  rlo := h.rlo
  dis := h.dis
theorem OII.same {w w' : World} {lo hi : Nat} {a : Option Addr} {mm : List (List Int)} (h : OII w lo hi a mm) (hb : ∀ k, lo ≤ k → k < hi → w'.heap[k]? = w.heap[k]?) : OII w' lo hi a mm := by
  rcases h with h | ⟨b, o, A, C, G, ha, h⟩
  · exact .inl h
  · exact .inr ⟨b, o, A, C, G, ha, h.same hb⟩
theorem OII.below {w w' : World} {lo hi B : Nat} {a : Option Addr} {mm : List (List Int)} (h : OII w lo hi a mm) (hb : Below B w w') (hB : hi ≤ B) : OII w' lo hi a mm :=
  h.same fun k _ h2 => hb.block k (by omega)
theorem OII.rii {w : World} {lo hi : Nat} {a : Option Addr} {mm : List (List Int)} (h : OII w lo hi a mm) : RII w lo hi a mm := by
  intro k hk
  rcases h with rfl | ⟨b, o, A, C, G, ha, h⟩
  · simp at hk
  · obtain ⟨r, hr⟩ := at_of_lt hk
    have h1 := h.rlo k hk
    exact ⟨b, o, A k, C k, r, ha, h.blo, h.bhi, hr, h.cell k r hr, (h.row k r hr).ri.wide h1.1 (by omega)⟩
/-- A call that makes a slice of slices of numbers, all of it its own. -/
def NewII (w : World) (mm : List (List Int)) (e : Ending) (w' : World) : Prop :=
  ∃ a c, e = .returned (.slice a mm.length c) ∧ OII w' w.heap.size w'.heap.size a mm ∧ Below w.heap.size w w'
/-- A call that makes a slice of slices of numbers whose rows may be shared. -/
def GotII (w : World) (mm : List (List Int)) (e : Ending) (w' : World) : Prop :=
  ∃ a c, e = .returned (.slice a mm.length c) ∧ RII w' w.heap.size w'.heap.size a mm ∧ Below w.heap.size w w'

/-- Of the blocks that were there only those from lo to hi may have turned. -/
structure Upd (lo hi : Nat) (w w' : World) : Prop where
  os : w'.os = w.os
  tape : w'.tape = w.tape
  output : w'.output = w.output
  size : w.heap.size ≤ w'.heap.size
  block : ∀ k, k < w.heap.size → (k < lo ∨ hi ≤ k) → w'.heap[k]? = w.heap[k]?
theorem Upd.refl (lo hi : Nat) (w : World) : Upd lo hi w w := ⟨rfl, rfl, rfl, Nat.le_refl _, fun _ _ _ => rfl⟩
theorem Upd.trans {lo hi : Nat} {a b c : World} (h : Upd lo hi a b) (k : Upd lo hi b c) : Upd lo hi a c :=
  ⟨k.os.trans h.os, k.tape.trans h.tape, k.output.trans h.output, Nat.le_trans h.size k.size, fun i hi ho => (k.block i (Nat.lt_of_lt_of_le hi h.size) ho).trans (h.block i hi ho)⟩
theorem Upd.wide {lo hi lo' hi' : Nat} {a b : World} (h : Upd lo hi a b) (h1 : lo' ≤ lo) (h2 : hi ≤ hi') : Upd lo' hi' a b :=
  ⟨h.os, h.tape, h.output, h.size, fun i hi ho => h.block i hi (by omega)⟩
theorem Upd.below {lo hi : Nat} {a b : World} (h : Upd lo hi a b) : Below (min lo a.heap.size) a b :=
  ⟨h.os, h.tape, h.output, h.size, fun i hi => h.block i (by omega) (.inl (by omega))⟩
theorem Upd.setCell {lo hi : Nat} {a w : World} (h : Upd lo hi a w) {p : Addr} (h1 : lo ≤ p.block) (h2 : p.block < hi) (u : Value) : Upd lo hi a (w.setCell p u) :=
  h.trans ⟨rfl, rfl, rfl, by simp [World.setCell], fun k _ ho => Below.heap_setCell _ _ _ _ (by omega)⟩
theorem RI.upd {w w' : World} {lo hi p q : Nat} {a : Option Addr} {m : List Int} (h : RI w lo hi a m) (hu : Upd p q w w') (hs : hi ≤ w.heap.size) (hd : hi ≤ p ∨ q ≤ lo) : RI w' lo hi a m :=
  h.same fun k h1 h2 => hu.block k (by omega) (by omega)
theorem OI.upd {w w' : World} {lo hi p q : Nat} {a : Option Addr} {m : List Int} (h : OI w lo hi a m) (hu : Upd p q w w') (hs : hi ≤ w.heap.size) (hd : hi ≤ p ∨ q ≤ lo) : OI w' lo hi a m :=
  h.same fun k h1 h2 => hu.block k (by omega) (by omega)
theorem RII.upd {w w' : World} {lo hi p q : Nat} {a : Option Addr} {m : List (List Int)} (h : RII w lo hi a m) (hu : Upd p q w w') (hs : hi ≤ w.heap.size) (hd : hi ≤ p ∨ q ≤ lo) : RII w' lo hi a m :=
  h.same fun k h1 h2 => hu.block k (by omega) (by omega)
theorem OII.upd {w w' : World} {lo hi p q : Nat} {a : Option Addr} {m : List (List Int)} (h : OII w lo hi a m) (hu : Upd p q w w') (hs : hi ≤ w.heap.size) (hd : hi ≤ p ∨ q ≤ lo) : OII w' lo hi a m :=
  h.same fun k h1 h2 => hu.block k (by omega) (by omega)
/-- From where a law began till here nothing that was there has turned. -/
theorem bnext {a w w' : World} (h : Below a.heap.size a w) (hb : Below w.heap.size w w') : Below a.heap.size a w' := h.trans (hb.mono h.size)

/-- What a law's call comes to: true, and nothing that was there has turned. -/
def Tru (w : World) (e : Ending) (w' : World) : Prop := e = .returned (.bool true) ∧ Below w.heap.size w w'

/-- Where a one-cell element of a slice lies: an equation for the walk. -/
theorem idx_run {P : Program} {t e : TypeId} (ht : P.underlying t = some (.slice e)) (hs : ∀ w, (sizeOf e).run P w = .ok 1 w) {a : Option Addr} {len k b o : Nat} (ha : a = some ⟨b, o, none⟩) (hk : k < len) (cap : Nat) (wx : World) :
    (Instr.indexAt t (.slice a len cap) (.int .i64 (k : Int))).run P wx = .ok (.pointer (some ⟨b, o + k, none⟩)) wx := by
  subst ha
  have h1 := hs wx
  simp [Instr.indexAt, run_underlying ht, asIntOf, h1, hk, Addr.add]

end Go.Proofs.Ytlfmjlkemcjhdaa
