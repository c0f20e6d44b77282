/- The closed facts on the cut's head, by its first three words alone: cheap for the kernel, however many laws the seat holds. -/
import Derived.Test.YtpfcjdabfmelaaaDoorChecked
import Derived.JoinedOf
namespace Go.Proofs.YtpfcjdabfmelaaaDoor
set_option maxRecDepth 100000
set_option linter.unusedSimpArgs false

theorem ws_split : ∀ (w r : List Char), (∀ c ∈ w, c ≠ Char.ofNat 32) → wordsSigns (w ++ Char.ofNat 32 :: r) = w :: wordsSigns r
  | [], r, _ => rfl
  | c :: w, r, h => by
      have ih := ws_split w r (fun d hd => h d (by simp [hd]))
      have hc : c = Char.ofNat 32 → False := h c (by simp)
      rw [List.cons_append, wordsSigns, ih]
      exact hc

theorem io_is : Tryd.prog.initOrder = String.ofList ([Char.ofNat 104, Char.ofNat 97, Char.ofNat 114, Char.ofNat 110, Char.ofNat 101, Char.ofNat 115, Char.ofNat 115] ++ Char.ofNat 32 :: ([Char.ofNat 97, Char.ofNat 48, Char.ofNat 56, Char.ofNat 52, Char.ofNat 54, Char.ofNat 97, Char.ofNat 97, Char.ofNat 102, Char.ofNat 53, Char.ofNat 52, Char.ofNat 48, Char.ofNat 56, Char.ofNat 97, Char.ofNat 51, Char.ofNat 102, Char.ofNat 99, Char.ofNat 99, Char.ofNat 53, Char.ofNat 101, Char.ofNat 55, Char.ofNat 53, Char.ofNat 53, Char.ofNat 98, Char.ofNat 48, Char.ofNat 56, Char.ofNat 98, Char.ofNat 52, Char.ofNat 52, Char.ofNat 54, Char.ofNat 52, Char.ofNat 53, Char.ofNat 49, Char.ofNat 49, Char.ofNat 54, Char.ofNat 98, Char.ofNat 52, Char.ofNat 102, Char.ofNat 54, Char.ofNat 51, Char.ofNat 51, Char.ofNat 100, Char.ofNat 53, Char.ofNat 51, Char.ofNat 102, Char.ofNat 102, Char.ofNat 51, Char.ofNat 102, Char.ofNat 97, Char.ofNat 101, Char.ofNat 54, Char.ofNat 49, Char.ofNat 48, Char.ofNat 102, Char.ofNat 100, Char.ofNat 52, Char.ofNat 97, Char.ofNat 55, Char.ofNat 99, Char.ofNat 48, Char.ofNat 55, Char.ofNat 48, Char.ofNat 54, Char.ofNat 98, Char.ofNat 97] ++ Char.ofNat 32 :: ([Char.ofNat 99, Char.ofNat 117, Char.ofNat 116] ++ Char.ofNat 32 :: [Char.ofNat 97, Char.ofNat 116, Char.ofNat 32, Char.ofNat 108, Char.ofNat 111, Char.ofNat 111, Char.ofNat 112, Char.ofNat 46, Char.ofNat 101, Char.ofNat 120, Char.ofNat 97, Char.ofNat 109, Char.ofNat 112, Char.ofNat 108, Char.ofNat 101, Char.ofNat 47, Char.ofNat 99, Char.ofNat 97, Char.ofNat 116, Char.ofNat 101, Char.ofNat 99, Char.ofNat 104, Char.ofNat 105, Char.ofNat 115, Char.ofNat 116, Char.ofNat 47, Char.ofNat 108, Char.ofNat 97, Char.ofNat 119, Char.ofNat 115, Char.ofNat 46, Char.ofNat 70, Char.ofNat 110, Char.ofNat 84, Char.ofNat 114, Char.ofNat 109, Char.ofNat 83, Char.ofNat 97, Char.ofNat 109, Char.ofNat 101]))) := by kernel_rfl
theorem io_words : wordsSigns Tryd.prog.initOrder.toList = [Char.ofNat 104, Char.ofNat 97, Char.ofNat 114, Char.ofNat 110, Char.ofNat 101, Char.ofNat 115, Char.ofNat 115] :: [Char.ofNat 97, Char.ofNat 48, Char.ofNat 56, Char.ofNat 52, Char.ofNat 54, Char.ofNat 97, Char.ofNat 97, Char.ofNat 102, Char.ofNat 53, Char.ofNat 52, Char.ofNat 48, Char.ofNat 56, Char.ofNat 97, Char.ofNat 51, Char.ofNat 102, Char.ofNat 99, Char.ofNat 99, Char.ofNat 53, Char.ofNat 101, Char.ofNat 55, Char.ofNat 53, Char.ofNat 53, Char.ofNat 98, Char.ofNat 48, Char.ofNat 56, Char.ofNat 98, Char.ofNat 52, Char.ofNat 52, Char.ofNat 54, Char.ofNat 52, Char.ofNat 53, Char.ofNat 49, Char.ofNat 49, Char.ofNat 54, Char.ofNat 98, Char.ofNat 52, Char.ofNat 102, Char.ofNat 54, Char.ofNat 51, Char.ofNat 51, Char.ofNat 100, Char.ofNat 53, Char.ofNat 51, Char.ofNat 102, Char.ofNat 102, Char.ofNat 51, Char.ofNat 102, Char.ofNat 97, Char.ofNat 101, Char.ofNat 54, Char.ofNat 49, Char.ofNat 48, Char.ofNat 102, Char.ofNat 100, Char.ofNat 52, Char.ofNat 97, Char.ofNat 55, Char.ofNat 99, Char.ofNat 48, Char.ofNat 55, Char.ofNat 48, Char.ofNat 54, Char.ofNat 98, Char.ofNat 97] :: [Char.ofNat 99, Char.ofNat 117, Char.ofNat 116] :: wordsSigns [Char.ofNat 97, Char.ofNat 116, Char.ofNat 32, Char.ofNat 108, Char.ofNat 111, Char.ofNat 111, Char.ofNat 112, Char.ofNat 46, Char.ofNat 101, Char.ofNat 120, Char.ofNat 97, Char.ofNat 109, Char.ofNat 112, Char.ofNat 108, Char.ofNat 101, Char.ofNat 47, Char.ofNat 99, Char.ofNat 97, Char.ofNat 116, Char.ofNat 101, Char.ofNat 99, Char.ofNat 104, Char.ofNat 105, Char.ofNat 115, Char.ofNat 116, Char.ofNat 47, Char.ofNat 108, Char.ofNat 97, Char.ofNat 119, Char.ofNat 115, Char.ofNat 46, Char.ofNat 70, Char.ofNat 110, Char.ofNat 84, Char.ofNat 114, Char.ofNat 109, Char.ofNat 83, Char.ofNat 97, Char.ofNat 109, Char.ofNat 101] := by
  rw [io_is, String.toList_ofList, ws_split _ _ (by decide), ws_split _ _ (by decide), ws_split _ _ (by decide)]
theorem bm (W : List (List Char)) : behindMainWord ([Char.ofNat 104, Char.ofNat 97, Char.ofNat 114, Char.ofNat 110, Char.ofNat 101, Char.ofNat 115, Char.ofNat 115] :: [Char.ofNat 97, Char.ofNat 48, Char.ofNat 56, Char.ofNat 52, Char.ofNat 54, Char.ofNat 97, Char.ofNat 97, Char.ofNat 102, Char.ofNat 53, Char.ofNat 52, Char.ofNat 48, Char.ofNat 56, Char.ofNat 97, Char.ofNat 51, Char.ofNat 102, Char.ofNat 99, Char.ofNat 99, Char.ofNat 53, Char.ofNat 101, Char.ofNat 55, Char.ofNat 53, Char.ofNat 53, Char.ofNat 98, Char.ofNat 48, Char.ofNat 56, Char.ofNat 98, Char.ofNat 52, Char.ofNat 52, Char.ofNat 54, Char.ofNat 52, Char.ofNat 53, Char.ofNat 49, Char.ofNat 49, Char.ofNat 54, Char.ofNat 98, Char.ofNat 52, Char.ofNat 102, Char.ofNat 54, Char.ofNat 51, Char.ofNat 51, Char.ofNat 100, Char.ofNat 53, Char.ofNat 51, Char.ofNat 102, Char.ofNat 102, Char.ofNat 51, Char.ofNat 102, Char.ofNat 97, Char.ofNat 101, Char.ofNat 54, Char.ofNat 49, Char.ofNat 48, Char.ofNat 102, Char.ofNat 100, Char.ofNat 52, Char.ofNat 97, Char.ofNat 55, Char.ofNat 99, Char.ofNat 48, Char.ofNat 55, Char.ofNat 48, Char.ofNat 54, Char.ofNat 98, Char.ofNat 97] :: [Char.ofNat 99, Char.ofNat 117, Char.ofNat 116] :: W) = [Char.ofNat 99, Char.ofNat 117, Char.ofNat 116] :: W := by kernel_rfl
theorem bmio : behindMainWord (wordsSigns Tryd.prog.initOrder.toList) = [Char.ofNat 99, Char.ofNat 117, Char.ofNat 116] :: wordsSigns [Char.ofNat 97, Char.ofNat 116, Char.ofNat 32, Char.ofNat 108, Char.ofNat 111, Char.ofNat 111, Char.ofNat 112, Char.ofNat 46, Char.ofNat 101, Char.ofNat 120, Char.ofNat 97, Char.ofNat 109, Char.ofNat 112, Char.ofNat 108, Char.ofNat 101, Char.ofNat 47, Char.ofNat 99, Char.ofNat 97, Char.ofNat 116, Char.ofNat 101, Char.ofNat 99, Char.ofNat 104, Char.ofNat 105, Char.ofNat 115, Char.ofNat 116, Char.ofNat 47, Char.ofNat 108, Char.ofNat 97, Char.ofNat 119, Char.ofNat 115, Char.ofNat 46, Char.ofNat 70, Char.ofNat 110, Char.ofNat 84, Char.ofNat 114, Char.ofNat 109, Char.ofNat 83, Char.ofNat 97, Char.ofNat 109, Char.ofNat 101] := (congrArg behindMainWord io_words).trans (bm _)
theorem make_of (P : Program) (W : List (List Char)) (h : behindMainWord (wordsSigns P.initOrder.toList) = [Char.ofNat 99, Char.ofNat 117, Char.ofNat 116] :: W) : P.make = some .cut := by
  unfold Program.make
  rw [h]
  kernel_rfl
theorem strip_of (W : List (List Char)) : stripLifts liftWords ([Char.ofNat 99, Char.ofNat 117, Char.ofNat 116] :: W) = ([], [Char.ofNat 99, Char.ofNat 117, Char.ofNat 116] :: W) := by kernel_rfl
theorem lifts_of (P : Program) (W : List (List Char)) (h : behindMainWord (wordsSigns P.initOrder.toList) = [Char.ofNat 99, Char.ofNat 117, Char.ofNat 116] :: W) : P.liftsFinal = false := by
  unfold Program.liftsFinal Program.headLifts
  rw [h]
  simp only [strip_of]
  kernel_rfl
theorem enter_of (P : Program) (W : List (List Char)) (h : behindMainWord (wordsSigns P.initOrder.toList) = [Char.ofNat 99, Char.ofNat 117, Char.ofNat 116] :: W) (h1 : P.laysLater = false) (h2 : P.bearsReflect = false) (h3 : P.doorFits [] = true) : P.mayEnter = true := by
  unfold Program.mayEnter
  rw [h]
  simp only [strip_of, h1, h2, h3]
  kernel_rfl
theorem prog_make : Tryd.prog.make = some .cut := make_of _ _ bmio
theorem prog_lifts : Tryd.prog.liftsFinal = false := lifts_of _ _ bmio
theorem prog_enter : Tryd.prog.mayEnter = true := enter_of _ _ bmio (by kernel_rfl) (by kernel_rfl) (by kernel_rfl)
/-- All closed facts of a row but the three on the cut's head. -/
def restFacts (P : Program) (f : FuncId) (fn : Func) (s : ChangeSpec) (c : OpenClaim) : Bool :=
  c.wf (OpenSpec.ofChange s) && laidOutB P && mapsRowed P &&
  fn.params.all (P.readableRec ·) && namedTie P c.named s.vars &&
  (c.stops == []) && (P.stops == []) && (c.knobs == []) && (P.stopKnobs == []) &&
  (c.inPlace == P.inPlace f) && (c.unfollowed == P.unfollowed f) && (c.recurses == P.recurses f) && (c.named == P.varsNamed f) &&
  (c.maps == (fn.params.toList ++ s.plain.varTypes P).any (P.mapsRec ·)) && (c.ifaces == (fn.params.toList ++ s.plain.varTypes P).any (P.ifacesRec ·)) && (c.mapsOut == P.mapsAmong fn.resultTypes.toList) &&
  (c.loops == (fn.params.toList ++ s.plain.varTypes P).any (P.loopsFrom ·)) && (c.wideKeys == (fn.params.toList ++ s.plain.varTypes P ++ fn.resultTypes.toList).any (P.wideKeysFrom ·)) &&
  s.vars.all (P.varReadable ·) && fn.resultTypes.all (fun t => P.readableRec t && decide (t < P.types.size)) && (c.ifacesOut == fn.resultTypes.toList.any (P.ifacesRec ·)) && (c.loopsOut == fn.resultTypes.toList.any (P.loopsFrom ·)) && (c.plainKeys == P.plainKeys) && c.shortTexts.isNone && P.stopsHeard && (c.kinds == (if c.domain.isEmpty then [] else fn.params.toList.map fun t => match P.underlying t with | some (.int k) => some k | _ => none)) && (c.pinned == c.pinnedBy) &&
  (c.veiled == (fn.params.toList ++ s.plain.varTypes P ++ fn.resultTypes.toList).any (P.veiledRec ·)) && c.veiledFits P fn.params.toList (fn.params.toList ++ s.plain.varTypes P ++ fn.resultTypes.toList)
theorem joined_split (P : Program) (f : FuncId) (fn : Func) (s : ChangeSpec) (c : OpenClaim) : joinedFacts P f fn s c = (restFacts P f fn s c && P.mayEnter && (c.lifted == P.liftsFinal) && (P.make == some c.make)) := by
  unfold joinedFacts restFacts
  generalize P.mayEnter = a1
  generalize (c.lifted == P.liftsFinal) = a2
  generalize (P.make == some c.make) = a3
  cases a1 <;> cases a2 <;> cases a3 <;> first | (simp only [Bool.and_true, Bool.and_false, Bool.false_and]; done) | (simp only [Bool.and_true, Bool.and_false, Bool.false_and]; rfl)
theorem joined_of {f : FuncId} {fn : Func} {s : ChangeSpec} {c : OpenClaim} (h : restFacts Tryd.prog f fn s c = true) (hl : c.lifted = false) (hm : c.make = .cut) : joinedFacts Tryd.prog f fn s c = true := by
  rw [joined_split, h, prog_enter, prog_lifts, prog_make, hl, hm]
  rfl
end Go.Proofs.YtpfcjdabfmelaaaDoor
