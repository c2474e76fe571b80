/- What is asked of the translation as a whole, once for all its laws: the head's words. The head is a long string: its letters are laid as a list, so that nothing long is reckoned. -/
import Derived.Test.YtpioldgpfpmjiaaDoorRows
import Derived.JoinedOf
import Derived.KernelRfl
namespace Go.Proofs.YtpioldgpfpmjiaaDoor

def headCodes : List Nat := [104, 97, 114, 110, 101, 115, 115, 32, 55, 52, 52, 49, 54, 49, 102, 48, 55, 48, 50, 98, 49, 53, 48, 57, 49, 101, 101, 51, 56, 97, 51, 98, 54, 49, 101, 54, 99, 97, 98, 98, 48, 55, 100, 51, 97, 50, 102, 51, 97, 51, 99, 97, 97, 52, 56, 55, 51, 98, 56, 52, 101, 102, 57, 102, 56, 101, 54, 52, 54, 50, 102, 99, 32, 99, 117, 116, 32, 97, 116, 32, 108, 111, 111, 112, 46, 101, 120, 97, 109, 112, 108, 101, 47, 99, 111, 118, 101, 114, 105, 110, 103, 116, 101, 115, 116, 115, 47, 108, 97, 119, 115, 46, 70, 110, 83, 117, 105, 116, 101, 84, 101, 120, 116, 32, 108, 111, 111, 112, 46, 101, 120, 97, 109, 112, 108, 101, 47, 99, 111, 118, 101, 114, 105, 110, 103, 116, 101, 115, 116, 115, 47, 108, 97, 119, 115, 46, 70, 110, 69, 120, 97, 99, 116, 80, 97, 114, 115, 101, 83, 117, 105, 116, 101, 32, 108, 111, 111, 112, 46, 101, 120, 97, 109, 112, 108, 101, 47, 99, 111, 118, 101, 114, 105, 110, 103, 116, 101, 115, 116, 115, 47, 108, 97, 119, 115, 46, 70, 110, 80, 97, 114, 115, 101, 83, 117, 105, 116, 101]
theorem headIs : Tryd.prog.initOrder = String.ofList (headCodes.map Char.ofNat) := by kernel_rfl
theorem headChars : Tryd.prog.initOrder.toList = headCodes.map Char.ofNat := by rw [headIs, String.toList_ofList]
theorem words_step (c : Char) (r : List Char) (hc : c ≠ Char.ofNat 32) : wordsSigns (c :: r) = match wordsSigns r with
    | w :: ws => (c :: w) :: ws
    | [] => [[c]] := by
  rw [wordsSigns]
  · rfl
  · exact hc
theorem words_cons (w r : List Char) (h : w.all (fun c => !(c == Char.ofNat 32)) = true) : wordsSigns (w ++ Char.ofNat 32 :: r) = w :: wordsSigns r := by
  induction w with
  | nil => rfl
  | cons c w ih =>
    simp only [List.all_cons, Bool.and_eq_true] at h
    have hc : c ≠ Char.ofNat 32 := by simpa using h.1
    show wordsSigns (c :: (w ++ Char.ofNat 32 :: r)) = _
    rw [words_step c _ hc, ih h.2]
def sumCodes : List Nat := (headCodes.drop 8).take 64
def restCodes : List Nat := headCodes.drop 77
theorem headSplit : headCodes.map Char.ofNat = "harness".toList ++ Char.ofNat 32 :: (sumCodes.map Char.ofNat ++ Char.ofNat 32 :: ("cut".toList ++ Char.ofNat 32 :: restCodes.map Char.ofNat)) := by kernel_rfl
theorem headWords : ∃ r, wordsSigns Tryd.prog.initOrder.toList = "harness".toList :: sumCodes.map Char.ofNat :: "cut".toList :: r := by
  rw [headChars, headSplit, words_cons _ _ (by kernel_rfl), words_cons _ _ (by kernel_rfl), words_cons _ _ (by kernel_rfl)]
  exact ⟨_, rfl⟩
theorem behind (r : List (List Char)) : behindMainWord ("harness".toList :: sumCodes.map Char.ofNat :: "cut".toList :: r) = "cut".toList :: r := by kernel_rfl
theorem stripped (r : List (List Char)) : stripLifts liftWords ("cut".toList :: r) = ([], "cut".toList :: r) := by kernel_rfl
theorem headLifts : Tryd.prog.headLifts = [] := by
  obtain ⟨r, hr⟩ := headWords
  unfold Program.headLifts
  rw [hr, behind, stripped]
  rfl
theorem notLater : Tryd.prog.laysLater = false := by kernel_rfl
theorem noReflect : Tryd.prog.bearsReflect = false := by kernel_rfl
theorem doorFits : Tryd.prog.doorFits [] = true := by kernel_rfl
theorem or_r {a b : Bool} (h : b = true) : (a || b) = true := by rw [h]; cases a <;> rfl
theorem and_t {a b : Bool} (h : a = true) (h' : b = true) : (a && b) = true := by rw [h, h']; rfl
theorem headCut (r : List (List Char)) : (("cut".toList :: r).head? == some "cut".toList) = true := by kernel_rfl
theorem leanNot : (([] : List String).contains "reflectrows" || !([] : List String).contains "leanrows") = true := by kernel_rfl
theorem mayEnter_of {P : Program} {c : List Char} {rest t : List (List Char)} (h : behindMainWord (wordsSigns P.initOrder.toList) = c :: rest) (h2 : stripLifts liftWords (c :: rest) = ([], t))
    (h3 : (t.head? == some "cut".toList) = true) (h4 : P.laysLater = false) (h5 : P.bearsReflect = false) (h6 : P.doorFits [] = true) : P.mayEnter = true := by
  unfold Program.mayEnter
  rw [h]
  dsimp only
  rw [h2, h4, h5]
  exact or_r (and_t (and_t (and_t (and_t h3 (or_r rfl)) (or_r rfl)) leanNot) h6)
theorem mayEnter : Tryd.prog.mayEnter = true := by
  obtain ⟨r, hr⟩ := headWords
  exact mayEnter_of (by rw [hr]; exact behind r) (stripped r) (headCut r) notLater noReflect doorFits
theorem make_of {P : Program} {c : List Char} {rest : List (List Char)} (h : behindMainWord (wordsSigns P.initOrder.toList) = c :: rest)
    (h1 : (c == "gc".toList || c == "spec".toList) = false) (h2 : (c == "cut".toList) = true) : P.make = some .cut := by
  unfold Program.make
  rw [h]
  dsimp only
  rw [h1, h2]
  rfl
theorem noFinals (r : List (List Char)) : ((("cut".toList :: r).head? == some "carried".toList && ("cut".toList :: r).take 3 != ["carried".toList, "gc".toList, "cut".toList]) || ([] : List String).contains "finals") = false := by kernel_rfl
theorem cutNot : ("cut".toList == "gc".toList || "cut".toList == "spec".toList) = false := by kernel_rfl
theorem cutIs : ("cut".toList == "cut".toList) = true := by kernel_rfl
theorem liftsFinal : Tryd.prog.liftsFinal = false := by
  obtain ⟨r, hr⟩ := headWords
  unfold Program.liftsFinal
  rw [hr, behind, headLifts]
  exact noFinals r
theorem make : Tryd.prog.make = some .cut := by
  obtain ⟨r, hr⟩ := headWords
  exact make_of (by rw [hr]; exact behind r) cutNot cutIs
theorem and_tt {a b : Bool} (h : a = true) (h' : b = true) : (a && b) = true := by rw [h, h']; rfl
set_option maxRecDepth 100000 in
theorem closed_of {fn : Func} {f : FuncId} {s : ChangeSpec} {c : OpenClaim} (hl : c.lifted = false) (hm : c.make = .cut)
    (h : ((c.wf (OpenSpec.ofChange s) && laidOutB Tryd.prog && mapsRowed Tryd.prog &&
      fn.params.all (Tryd.prog.readableRec ·) && namedTie Tryd.prog c.named s.vars &&
      (c.stops == []) && (Tryd.prog.stops == []) && (c.knobs == []) && (Tryd.prog.stopKnobs == []) &&
      (c.inPlace == Tryd.prog.inPlace f) && (c.unfollowed == Tryd.prog.unfollowed f) && (c.recurses == Tryd.prog.recurses f) && (c.named == Tryd.prog.varsNamed f) &&
      (c.maps == (fn.params.toList ++ s.plain.varTypes Tryd.prog).any (Tryd.prog.mapsRec ·)) && (c.ifaces == (fn.params.toList ++ s.plain.varTypes Tryd.prog).any (Tryd.prog.ifacesRec ·)) && (c.mapsOut == Tryd.prog.mapsAmong fn.resultTypes.toList) &&
      (c.loops == (fn.params.toList ++ s.plain.varTypes Tryd.prog).any (Tryd.prog.loopsFrom ·)) && (c.wideKeys == (fn.params.toList ++ s.plain.varTypes Tryd.prog ++ fn.resultTypes.toList).any (Tryd.prog.wideKeysFrom ·)) &&
      s.vars.all (Tryd.prog.varReadable ·) && fn.resultTypes.all (fun t => Tryd.prog.readableRec t && decide (t < Tryd.prog.types.size)) && (c.ifacesOut == fn.resultTypes.toList.any (Tryd.prog.ifacesRec ·)) && (c.loopsOut == fn.resultTypes.toList.any (Tryd.prog.loopsFrom ·)) && (c.plainKeys == Tryd.prog.plainKeys) && c.shortTexts.isNone && Tryd.prog.stopsHeard)) = true)
    (h28 : (c.kinds == (if c.domain.isEmpty then [] else fn.params.toList.map fun t => match Tryd.prog.underlying t with | some (.int k) => some k | _ => none)) = true)
    (h29 : (c.pinned == c.pinnedBy) = true)
    (h30 : (c.veiled == (fn.params.toList ++ s.plain.varTypes Tryd.prog ++ fn.resultTypes.toList).any (Tryd.prog.veiledRec ·)) = true)
    (h31 : c.veiledFits Tryd.prog fn.params.toList (fn.params.toList ++ s.plain.varTypes Tryd.prog ++ fn.resultTypes.toList) = true) :
    joinedFacts Tryd.prog f fn s c = true := by
  unfold joinedFacts
  refine and_tt (and_tt (and_tt (and_tt (and_tt (and_tt (and_tt h mayEnter) ?_) ?_) h28) h29) h30) h31
  · rw [liftsFinal, hl]; rfl
  · rw [make, hm]; rfl

end Go.Proofs.YtpioldgpfpmjiaaDoor
