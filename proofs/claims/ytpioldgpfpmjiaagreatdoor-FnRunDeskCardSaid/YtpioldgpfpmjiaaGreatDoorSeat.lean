/- What is asked of the translation as a whole, once for all its laws: the head's words. The head is a long string: its letters are laid as a list, so that nothing long is reckoned. -/
import Derived.Test.YtpioldgpfpmjiaaGreatDoorRows
import Derived.JoinedOf
import Derived.KernelRfl
namespace Go.Proofs.YtpioldgpfpmjiaaGreatDoor

def headCodes : List Nat := [104, 97, 114, 110, 101, 115, 115, 32, 55, 49, 52, 53, 55, 99, 101, 98, 53, 56, 50, 49, 100, 57, 49, 101, 97, 102, 99, 57, 52, 48, 102, 54, 57, 98, 49, 99, 52, 99, 102, 52, 50, 55, 50, 99, 50, 54, 53, 98, 50, 51, 48, 54, 100, 49, 54, 50, 98, 99, 56, 48, 101, 56, 102, 97, 48, 56, 53, 55, 100, 54, 51, 54, 32, 99, 117, 116, 32, 97, 116, 32, 108, 111, 111, 112, 46, 101, 120, 97, 109, 112, 108, 101, 47, 99, 111, 118, 101, 114, 105, 110, 103, 116, 101, 115, 116, 115, 47, 108, 97, 119, 115, 46, 70, 110, 69, 120, 97, 99, 116, 82, 117, 110, 68, 101, 115, 107, 32, 108, 111, 111, 112, 46, 101, 120, 97, 109, 112, 108, 101, 47, 99, 111, 118, 101, 114, 105, 110, 103, 116, 101, 115, 116, 115, 47, 108, 97, 119, 115, 46, 70, 110, 82, 117, 110, 68, 101, 115, 107]
theorem headIs : Tryz.prog.initOrder = String.ofList (headCodes.map Char.ofNat) := by kernel_rfl
theorem headChars : Tryz.prog.initOrder.toList = headCodes.map Char.ofNat := by rw [headIs, String.toList_ofList]
theorem words_step (c : Char) (r : List Char) (hc : c ≠ Char.ofNat 32) : wordsSigns (c :: r) = match wordsSigns r with
    | w :: ws => (c :: w) :: ws
    | [] => [[c]] := by
  rw [wordsSigns]
  · rfl
  · exact hc
theorem words_cons (w r : List Char) (h : w.all (fun c => !(c == Char.ofNat 32)) = true) : wordsSigns (w ++ Char.ofNat 32 :: r) = w :: wordsSigns r := by
  induction w with
  | nil => rfl
  | cons c w ih =>
    simp only [List.all_cons, Bool.and_eq_true] at h
    have hc : c ≠ Char.ofNat 32 := by simpa using h.1
    show wordsSigns (c :: (w ++ Char.ofNat 32 :: r)) = _
    rw [words_step c _ hc, ih h.2]
def sumCodes : List Nat := (headCodes.drop 8).take 64
def restCodes : List Nat := headCodes.drop 77
theorem headSplit : headCodes.map Char.ofNat = "harness".toList ++ Char.ofNat 32 :: (sumCodes.map Char.ofNat ++ Char.ofNat 32 :: ("cut".toList ++ Char.ofNat 32 :: restCodes.map Char.ofNat)) := by kernel_rfl
theorem headWords : ∃ r, wordsSigns Tryz.prog.initOrder.toList = "harness".toList :: sumCodes.map Char.ofNat :: "cut".toList :: r := by
  rw [headChars, headSplit, words_cons _ _ (by kernel_rfl), words_cons _ _ (by kernel_rfl), words_cons _ _ (by kernel_rfl)]
  exact ⟨_, rfl⟩
theorem behind (r : List (List Char)) : behindMainWord ("harness".toList :: sumCodes.map Char.ofNat :: "cut".toList :: r) = "cut".toList :: r := by kernel_rfl
theorem stripped (r : List (List Char)) : stripLifts liftWords ("cut".toList :: r) = ([], "cut".toList :: r) := by kernel_rfl
theorem headLifts : Tryz.prog.headLifts = [] := by
  obtain ⟨r, hr⟩ := headWords
  unfold Program.headLifts
  rw [hr, behind, stripped]
  rfl
theorem notLater : Tryz.prog.laysLater = false := by kernel_rfl
theorem noReflect : Tryz.prog.bearsReflect = false := by kernel_rfl
theorem doorFits : Tryz.prog.doorFits [] = true := by kernel_rfl
theorem or_r {a b : Bool} (h : b = true) : (a || b) = true := by rw [h]; cases a <;> rfl
theorem and_t {a b : Bool} (h : a = true) (h' : b = true) : (a && b) = true := by rw [h, h']; rfl
theorem headCut (r : List (List Char)) : (("cut".toList :: r).head? == some "cut".toList) = true := by kernel_rfl
theorem leanNot : (([] : List String).contains "reflectrows" || !([] : List String).contains "leanrows") = true := by kernel_rfl
theorem mayEnter_of {P : Program} {c : List Char} {rest t : List (List Char)} (h : behindMainWord (wordsSigns P.initOrder.toList) = c :: rest) (h2 : stripLifts liftWords (c :: rest) = ([], t))
    (h3 : (t.head? == some "cut".toList) = true) (h4 : P.laysLater = false) (h5 : P.bearsReflect = false) (h6 : P.doorFits [] = true) : P.mayEnter = true := by
  unfold Program.mayEnter
  rw [h]
  dsimp only
  rw [h2, h4, h5]
  exact or_r (and_t (and_t (and_t (and_t h3 (or_r rfl)) (or_r rfl)) leanNot) h6)
theorem mayEnter : Tryz.prog.mayEnter = true := by
  obtain ⟨r, hr⟩ := headWords
  exact mayEnter_of (by rw [hr]; exact behind r) (stripped r) (headCut r) notLater noReflect doorFits
theorem make_of {P : Program} {c : List Char} {rest : List (List Char)} (h : behindMainWord (wordsSigns P.initOrder.toList) = c :: rest)
    (h1 : (c == "gc".toList || c == "spec".toList) = false) (h2 : (c == "cut".toList) = true) : P.make = some .cut := by
  unfold Program.make
  rw [h]
  dsimp only
  rw [h1, h2]
  rfl
theorem noFinals (r : List (List Char)) : ((("cut".toList :: r).head? == some "carried".toList && ("cut".toList :: r).take 3 != ["carried".toList, "gc".toList, "cut".toList]) || ([] : List String).contains "finals") = false := by kernel_rfl
theorem cutNot : ("cut".toList == "gc".toList || "cut".toList == "spec".toList) = false := by kernel_rfl
theorem cutIs : ("cut".toList == "cut".toList) = true := by kernel_rfl
theorem liftsFinal : Tryz.prog.liftsFinal = false := by
  obtain ⟨r, hr⟩ := headWords
  unfold Program.liftsFinal
  rw [hr, behind, headLifts]
  exact noFinals r
theorem make : Tryz.prog.make = some .cut := by
  obtain ⟨r, hr⟩ := headWords
  exact make_of (by rw [hr]; exact behind r) cutNot cutIs
theorem and_tt {a b : Bool} (h : a = true) (h' : b = true) : (a && b) = true := by rw [h, h']; rfl
set_option maxRecDepth 100000 in
theorem closed_of {fn : Func} {f : FuncId} {s : ChangeSpec} {c : OpenClaim} (hl : c.lifted = false) (hm : c.make = .cut)
    (h : ((c.wf (OpenSpec.ofChange s) && laidOutB Tryz.prog && mapsRowed Tryz.prog &&
      fn.params.all (Tryz.prog.readableRec ·) && namedTie Tryz.prog c.named s.vars &&
      (c.stops == []) && (Tryz.prog.stops == []) && (c.knobs == []) && (Tryz.prog.stopKnobs == []) &&
      (c.inPlace == Tryz.prog.inPlace f) && (c.unfollowed == Tryz.prog.unfollowed f) && (c.recurses == Tryz.prog.recurses f) && (c.named == Tryz.prog.varsNamed f) &&
      (c.maps == (fn.params.toList ++ s.plain.varTypes Tryz.prog).any (Tryz.prog.mapsRec ·)) && (c.ifaces == (fn.params.toList ++ s.plain.varTypes Tryz.prog).any (Tryz.prog.ifacesRec ·)) && (c.mapsOut == Tryz.prog.mapsAmong fn.resultTypes.toList) &&
      (c.loops == (fn.params.toList ++ s.plain.varTypes Tryz.prog).any (Tryz.prog.loopsFrom ·)) && (c.wideKeys == (fn.params.toList ++ s.plain.varTypes Tryz.prog ++ fn.resultTypes.toList).any (Tryz.prog.wideKeysFrom ·)) &&
      s.vars.all (Tryz.prog.varReadable ·) && fn.resultTypes.all (fun t => Tryz.prog.readableRec t && decide (t < Tryz.prog.types.size)) && (c.ifacesOut == fn.resultTypes.toList.any (Tryz.prog.ifacesRec ·)) && (c.loopsOut == fn.resultTypes.toList.any (Tryz.prog.loopsFrom ·)) && (c.plainKeys == Tryz.prog.plainKeys) && c.shortTexts.isNone && Tryz.prog.stopsHeard)) = true)
    (h28 : (c.kinds == (if c.domain.isEmpty then [] else fn.params.toList.map fun t => match Tryz.prog.underlying t with | some (.int k) => some k | _ => none)) = true)
    (h29 : (c.pinned == c.pinnedBy) = true)
    (h30 : (c.veiled == (fn.params.toList ++ s.plain.varTypes Tryz.prog ++ fn.resultTypes.toList).any (Tryz.prog.veiledRec ·)) = true)
    (h31 : c.veiledFits Tryz.prog fn.params.toList (fn.params.toList ++ s.plain.varTypes Tryz.prog ++ fn.resultTypes.toList) = true) :
    joinedFacts Tryz.prog f fn s c = true := by
  unfold joinedFacts
  refine and_tt (and_tt (and_tt (and_tt (and_tt (and_tt (and_tt h mayEnter) ?_) ?_) h28) h29) h30) h31
  · rw [liftsFinal, hl]; rfl
  · rw [make, hm]; rfl

end Go.Proofs.YtpioldgpfpmjiaaGreatDoor
