/-
  No cell of these rows narrows 'for every input' (looked for: loops, veiled, ifaces, maps, wideKeys, modest, calm, conditions, laid).
  DERIVED. THE GIVEN ROWS OF THIS SEAT. 20 by the template 'for every input the law returns true; each argument reads behind the call as it read before'; 0 by the template 'total and deterministic' (their statements: YtddhjafpacgdaaaTotals.lean).
  GIVEN WITH THE SEED: the statements are not yours to turn. If you find one false, say at which input.
  Laid BY PROGRAM, IN A SANDBOX (cutbox-rows.mjs): the forced cells as the released guide's own fill.sh prints them over the translation e3b8e94214d49203… (all of the seat's roots in one cut). By AI agents, Wed Nov 11 2026. No macro, syntax, notation, axiom, sorry.
-/
import Derived.Test.YtddhjafpacgdaaaChecked
import GoSem.Claim
import GoSem.ClaimJoined
import GoSem.ClaimMapViews
import Derived.JoinedTies
import Derived.KernelRfl
namespace Go.Proofs.Ytddhjafpacgdaaa
/- THE CELL 'sum', in the pinned program and in every row, IS THE sha256 OF THE DUMP (.gsa) THAT YtddhjafpacgdaaaProg.lean LOADS. Nothing in Lean hashes anything: it is a label: what it is worth is what the hold of that sum in a sandbox is worth. -/
noncomputable def Try.pinned : Pinned := { name := "ytddhjafpacgdaaa", sum := "e3b8e94214d49203543662849630d101aee91feae89b4ad63dd4d9367c2e5822", checked := Try.checked }
namespace Rows
def none {H : Type} : Left H := { results := [], args := [] }

/-- 'laws.FnTrmCanon': WHATEVER THE INPUT: true; the input reads as it did. -/
def fnTrmCanonSpec : ChangeSpec := { name := "fnTrmCanon", fn := fun _ => fun
  | [d1, d2] => { results := [.lit (.bool true)], args := [d1, d2] }
  | _ => none }
def fnTrmCanonRow : OpenClaim := { program := "ytddhjafpacgdaaa", sum := "e3b8e94214d49203543662849630d101aee91feae89b4ad63dd4d9367c2e5822", func := "loop.example/catechist/laws.FnTrmCanon", spec := "fnTrmCanon", unfollowed := true, recurses := true, apart := false }
def FnTrmCanonSaid : Prop := fnTrmCanonRow.holds Try.pinned (OpenSpec.ofChange fnTrmCanonSpec)

/-- ITS FALSE NEIGHBOUR: 'it returns false'. Refute it at one input. -/
def fnTrmCanonWrong : ChangeSpec := { name := "fnTrmCanon", fn := fun _ => fun
  | [d1, d2] => { results := [.lit (.bool false)], args := [d1, d2] }
  | _ => none }
def FnTrmCanonWrongFalsely : Prop := fnTrmCanonRow.holds Try.pinned (OpenSpec.ofChange fnTrmCanonWrong)

/-- 'laws.FnTrmShift': WHATEVER THE INPUT: true; the input reads as it did. -/
def fnTrmShiftSpec : ChangeSpec := { name := "fnTrmShift", fn := fun _ => fun
  | [d] => { results := [.lit (.bool true)], args := [d] }
  | _ => none }
def fnTrmShiftRow : OpenClaim := { program := "ytddhjafpacgdaaa", sum := "e3b8e94214d49203543662849630d101aee91feae89b4ad63dd4d9367c2e5822", func := "loop.example/catechist/laws.FnTrmShift", spec := "fnTrmShift", unfollowed := true, recurses := true, apart := false }
def FnTrmShiftSaid : Prop := fnTrmShiftRow.holds Try.pinned (OpenSpec.ofChange fnTrmShiftSpec)

/-- ITS FALSE NEIGHBOUR: 'it returns false'. Refute it at one input. -/
def fnTrmShiftWrong : ChangeSpec := { name := "fnTrmShift", fn := fun _ => fun
  | [d] => { results := [.lit (.bool false)], args := [d] }
  | _ => none }
def FnTrmShiftWrongFalsely : Prop := fnTrmShiftRow.holds Try.pinned (OpenSpec.ofChange fnTrmShiftWrong)

/-- 'laws.FnSubUnify': WHATEVER THE INPUT: true; the input reads as it did. -/
def fnSubUnifySpec : ChangeSpec := { name := "fnSubUnify", fn := fun _ => fun
  | [d] => { results := [.lit (.bool true)], args := [d] }
  | _ => none }
def fnSubUnifyRow : OpenClaim := { program := "ytddhjafpacgdaaa", sum := "e3b8e94214d49203543662849630d101aee91feae89b4ad63dd4d9367c2e5822", func := "loop.example/catechist/laws.FnSubUnify", spec := "fnSubUnify", unfollowed := true, recurses := true, apart := false }
def FnSubUnifySaid : Prop := fnSubUnifyRow.holds Try.pinned (OpenSpec.ofChange fnSubUnifySpec)

/-- ITS FALSE NEIGHBOUR: 'it returns false'. Refute it at one input. -/
def fnSubUnifyWrong : ChangeSpec := { name := "fnSubUnify", fn := fun _ => fun
  | [d] => { results := [.lit (.bool false)], args := [d] }
  | _ => none }
def FnSubUnifyWrongFalsely : Prop := fnSubUnifyRow.holds Try.pinned (OpenSpec.ofChange fnSubUnifyWrong)

/-- 'laws.FnSubMost': WHATEVER THE INPUT: true; the input reads as it did. -/
def fnSubMostSpec : ChangeSpec := { name := "fnSubMost", fn := fun _ => fun
  | [d] => { results := [.lit (.bool true)], args := [d] }
  | _ => none }
def fnSubMostRow : OpenClaim := { program := "ytddhjafpacgdaaa", sum := "e3b8e94214d49203543662849630d101aee91feae89b4ad63dd4d9367c2e5822", func := "loop.example/catechist/laws.FnSubMost", spec := "fnSubMost", unfollowed := true, recurses := true, apart := false }
def FnSubMostSaid : Prop := fnSubMostRow.holds Try.pinned (OpenSpec.ofChange fnSubMostSpec)

/-- ITS FALSE NEIGHBOUR: 'it returns false'. Refute it at one input. -/
def fnSubMostWrong : ChangeSpec := { name := "fnSubMost", fn := fun _ => fun
  | [d] => { results := [.lit (.bool false)], args := [d] }
  | _ => none }
def FnSubMostWrongFalsely : Prop := fnSubMostRow.holds Try.pinned (OpenSpec.ofChange fnSubMostWrong)

/-- 'laws.FnSubSwap': WHATEVER THE INPUT: true; the input reads as it did. -/
def fnSubSwapSpec : ChangeSpec := { name := "fnSubSwap", fn := fun _ => fun
  | [d] => { results := [.lit (.bool true)], args := [d] }
  | _ => none }
def fnSubSwapRow : OpenClaim := { program := "ytddhjafpacgdaaa", sum := "e3b8e94214d49203543662849630d101aee91feae89b4ad63dd4d9367c2e5822", func := "loop.example/catechist/laws.FnSubSwap", spec := "fnSubSwap", unfollowed := true, recurses := true, apart := false }
def FnSubSwapSaid : Prop := fnSubSwapRow.holds Try.pinned (OpenSpec.ofChange fnSubSwapSpec)

/-- ITS FALSE NEIGHBOUR: 'it returns false'. Refute it at one input. -/
def fnSubSwapWrong : ChangeSpec := { name := "fnSubSwap", fn := fun _ => fun
  | [d] => { results := [.lit (.bool false)], args := [d] }
  | _ => none }
def FnSubSwapWrongFalsely : Prop := fnSubSwapRow.holds Try.pinned (OpenSpec.ofChange fnSubSwapWrong)

/-- 'laws.FnSubApart': WHATEVER THE INPUT: true; the input reads as it did. -/
def fnSubApartSpec : ChangeSpec := { name := "fnSubApart", fn := fun _ => fun
  | [d] => { results := [.lit (.bool true)], args := [d] }
  | _ => none }
def fnSubApartRow : OpenClaim := { program := "ytddhjafpacgdaaa", sum := "e3b8e94214d49203543662849630d101aee91feae89b4ad63dd4d9367c2e5822", func := "loop.example/catechist/laws.FnSubApart", spec := "fnSubApart", unfollowed := true, recurses := true, apart := false }
def FnSubApartSaid : Prop := fnSubApartRow.holds Try.pinned (OpenSpec.ofChange fnSubApartSpec)

/-- ITS FALSE NEIGHBOUR: 'it returns false'. Refute it at one input. -/
def fnSubApartWrong : ChangeSpec := { name := "fnSubApart", fn := fun _ => fun
  | [d] => { results := [.lit (.bool false)], args := [d] }
  | _ => none }
def FnSubApartWrongFalsely : Prop := fnSubApartRow.holds Try.pinned (OpenSpec.ofChange fnSubApartWrong)

/-- 'laws.FnSubFull': WHATEVER THE INPUT: true; the input reads as it did. -/
def fnSubFullSpec : ChangeSpec := { name := "fnSubFull", fn := fun _ => fun
  | [d] => { results := [.lit (.bool true)], args := [d] }
  | _ => none }
def fnSubFullRow : OpenClaim := { program := "ytddhjafpacgdaaa", sum := "e3b8e94214d49203543662849630d101aee91feae89b4ad63dd4d9367c2e5822", func := "loop.example/catechist/laws.FnSubFull", spec := "fnSubFull", unfollowed := true, recurses := true, apart := false }
def FnSubFullSaid : Prop := fnSubFullRow.holds Try.pinned (OpenSpec.ofChange fnSubFullSpec)

/-- ITS FALSE NEIGHBOUR: 'it returns false'. Refute it at one input. -/
def fnSubFullWrong : ChangeSpec := { name := "fnSubFull", fn := fun _ => fun
  | [d] => { results := [.lit (.bool false)], args := [d] }
  | _ => none }
def FnSubFullWrongFalsely : Prop := fnSubFullRow.holds Try.pinned (OpenSpec.ofChange fnSubFullWrong)

/-- 'laws.FnSubGet': WHATEVER THE INPUT: true; the input reads as it did. -/
def fnSubGetSpec : ChangeSpec := { name := "fnSubGet", fn := fun _ => fun
  | [d] => { results := [.lit (.bool true)], args := [d] }
  | _ => none }
def fnSubGetRow : OpenClaim := { program := "ytddhjafpacgdaaa", sum := "e3b8e94214d49203543662849630d101aee91feae89b4ad63dd4d9367c2e5822", func := "loop.example/catechist/laws.FnSubGet", spec := "fnSubGet", unfollowed := true, recurses := true, apart := false }
def FnSubGetSaid : Prop := fnSubGetRow.holds Try.pinned (OpenSpec.ofChange fnSubGetSpec)

/-- ITS FALSE NEIGHBOUR: 'it returns false'. Refute it at one input. -/
def fnSubGetWrong : ChangeSpec := { name := "fnSubGet", fn := fun _ => fun
  | [d] => { results := [.lit (.bool false)], args := [d] }
  | _ => none }
def FnSubGetWrongFalsely : Prop := fnSubGetRow.holds Try.pinned (OpenSpec.ofChange fnSubGetWrong)

/-- 'laws.FnTrmRenamed': WHATEVER THE INPUT: true; the input reads as it did. -/
def fnTrmRenamedSpec : ChangeSpec := { name := "fnTrmRenamed", fn := fun _ => fun
  | [d] => { results := [.lit (.bool true)], args := [d] }
  | _ => none }
def fnTrmRenamedRow : OpenClaim := { program := "ytddhjafpacgdaaa", sum := "e3b8e94214d49203543662849630d101aee91feae89b4ad63dd4d9367c2e5822", func := "loop.example/catechist/laws.FnTrmRenamed", spec := "fnTrmRenamed", unfollowed := true, recurses := true, apart := false }
def FnTrmRenamedSaid : Prop := fnTrmRenamedRow.holds Try.pinned (OpenSpec.ofChange fnTrmRenamedSpec)

/-- ITS FALSE NEIGHBOUR: 'it returns false'. Refute it at one input. -/
def fnTrmRenamedWrong : ChangeSpec := { name := "fnTrmRenamed", fn := fun _ => fun
  | [d] => { results := [.lit (.bool false)], args := [d] }
  | _ => none }
def FnTrmRenamedWrongFalsely : Prop := fnTrmRenamedRow.holds Try.pinned (OpenSpec.ofChange fnTrmRenamedWrong)

/-- 'laws.FnSubVar': WHATEVER THE INPUT: true; the input reads as it did. -/
def fnSubVarSpec : ChangeSpec := { name := "fnSubVar", fn := fun _ => fun
  | [d] => { results := [.lit (.bool true)], args := [d] }
  | _ => none }
def fnSubVarRow : OpenClaim := { program := "ytddhjafpacgdaaa", sum := "e3b8e94214d49203543662849630d101aee91feae89b4ad63dd4d9367c2e5822", func := "loop.example/catechist/laws.FnSubVar", spec := "fnSubVar", unfollowed := true, recurses := true, apart := false }
def FnSubVarSaid : Prop := fnSubVarRow.holds Try.pinned (OpenSpec.ofChange fnSubVarSpec)

/-- ITS FALSE NEIGHBOUR: 'it returns false'. Refute it at one input. -/
def fnSubVarWrong : ChangeSpec := { name := "fnSubVar", fn := fun _ => fun
  | [d] => { results := [.lit (.bool false)], args := [d] }
  | _ => none }
def FnSubVarWrongFalsely : Prop := fnSubVarRow.holds Try.pinned (OpenSpec.ofChange fnSubVarWrong)

/-- 'laws.FnSubArgs': WHATEVER THE INPUT: true; the input reads as it did. -/
def fnSubArgsSpec : ChangeSpec := { name := "fnSubArgs", fn := fun _ => fun
  | [d] => { results := [.lit (.bool true)], args := [d] }
  | _ => none }
def fnSubArgsRow : OpenClaim := { program := "ytddhjafpacgdaaa", sum := "e3b8e94214d49203543662849630d101aee91feae89b4ad63dd4d9367c2e5822", func := "loop.example/catechist/laws.FnSubArgs", spec := "fnSubArgs", unfollowed := true, recurses := true, apart := false }
def FnSubArgsSaid : Prop := fnSubArgsRow.holds Try.pinned (OpenSpec.ofChange fnSubArgsSpec)

/-- ITS FALSE NEIGHBOUR: 'it returns false'. Refute it at one input. -/
def fnSubArgsWrong : ChangeSpec := { name := "fnSubArgs", fn := fun _ => fun
  | [d] => { results := [.lit (.bool false)], args := [d] }
  | _ => none }
def FnSubArgsWrongFalsely : Prop := fnSubArgsRow.holds Try.pinned (OpenSpec.ofChange fnSubArgsWrong)

/-- 'laws.FnSubAgain': WHATEVER THE INPUT: true; the input reads as it did. -/
def fnSubAgainSpec : ChangeSpec := { name := "fnSubAgain", fn := fun _ => fun
  | [d] => { results := [.lit (.bool true)], args := [d] }
  | _ => none }
def fnSubAgainRow : OpenClaim := { program := "ytddhjafpacgdaaa", sum := "e3b8e94214d49203543662849630d101aee91feae89b4ad63dd4d9367c2e5822", func := "loop.example/catechist/laws.FnSubAgain", spec := "fnSubAgain", unfollowed := true, recurses := true, apart := false }
def FnSubAgainSaid : Prop := fnSubAgainRow.holds Try.pinned (OpenSpec.ofChange fnSubAgainSpec)

/-- ITS FALSE NEIGHBOUR: 'it returns false'. Refute it at one input. -/
def fnSubAgainWrong : ChangeSpec := { name := "fnSubAgain", fn := fun _ => fun
  | [d] => { results := [.lit (.bool false)], args := [d] }
  | _ => none }
def FnSubAgainWrongFalsely : Prop := fnSubAgainRow.holds Try.pinned (OpenSpec.ofChange fnSubAgainWrong)

/-- 'laws.FnSubOk': WHATEVER THE INPUT: true; the input reads as it did. -/
def fnSubOkSpec : ChangeSpec := { name := "fnSubOk", fn := fun _ => fun
  | [d] => { results := [.lit (.bool true)], args := [d] }
  | _ => none }
def fnSubOkRow : OpenClaim := { program := "ytddhjafpacgdaaa", sum := "e3b8e94214d49203543662849630d101aee91feae89b4ad63dd4d9367c2e5822", func := "loop.example/catechist/laws.FnSubOk", spec := "fnSubOk", unfollowed := true, recurses := true, apart := false }
def FnSubOkSaid : Prop := fnSubOkRow.holds Try.pinned (OpenSpec.ofChange fnSubOkSpec)

/-- ITS FALSE NEIGHBOUR: 'it returns false'. Refute it at one input. -/
def fnSubOkWrong : ChangeSpec := { name := "fnSubOk", fn := fun _ => fun
  | [d] => { results := [.lit (.bool false)], args := [d] }
  | _ => none }
def FnSubOkWrongFalsely : Prop := fnSubOkRow.holds Try.pinned (OpenSpec.ofChange fnSubOkWrong)

/-- 'laws.FnSubTwo': WHATEVER THE INPUT: true; the input reads as it did. -/
def fnSubTwoSpec : ChangeSpec := { name := "fnSubTwo", fn := fun _ => fun
  | [d1, d2] => { results := [.lit (.bool true)], args := [d1, d2] }
  | _ => none }
def fnSubTwoRow : OpenClaim := { program := "ytddhjafpacgdaaa", sum := "e3b8e94214d49203543662849630d101aee91feae89b4ad63dd4d9367c2e5822", func := "loop.example/catechist/laws.FnSubTwo", spec := "fnSubTwo", unfollowed := true, recurses := true, apart := false }
def FnSubTwoSaid : Prop := fnSubTwoRow.holds Try.pinned (OpenSpec.ofChange fnSubTwoSpec)

/-- ITS FALSE NEIGHBOUR: 'it returns false'. Refute it at one input. -/
def fnSubTwoWrong : ChangeSpec := { name := "fnSubTwo", fn := fun _ => fun
  | [d1, d2] => { results := [.lit (.bool false)], args := [d1, d2] }
  | _ => none }
def FnSubTwoWrongFalsely : Prop := fnSubTwoRow.holds Try.pinned (OpenSpec.ofChange fnSubTwoWrong)

/-- 'laws.FnSubGround': WHATEVER THE INPUT: true; the input reads as it did. -/
def fnSubGroundSpec : ChangeSpec := { name := "fnSubGround", fn := fun _ => fun
  | [d] => { results := [.lit (.bool true)], args := [d] }
  | _ => none }
def fnSubGroundRow : OpenClaim := { program := "ytddhjafpacgdaaa", sum := "e3b8e94214d49203543662849630d101aee91feae89b4ad63dd4d9367c2e5822", func := "loop.example/catechist/laws.FnSubGround", spec := "fnSubGround", unfollowed := true, recurses := true, apart := false }
def FnSubGroundSaid : Prop := fnSubGroundRow.holds Try.pinned (OpenSpec.ofChange fnSubGroundSpec)

/-- ITS FALSE NEIGHBOUR: 'it returns false'. Refute it at one input. -/
def fnSubGroundWrong : ChangeSpec := { name := "fnSubGround", fn := fun _ => fun
  | [d] => { results := [.lit (.bool false)], args := [d] }
  | _ => none }
def FnSubGroundWrongFalsely : Prop := fnSubGroundRow.holds Try.pinned (OpenSpec.ofChange fnSubGroundWrong)

/-- 'laws.FnExactTrmShift': WHATEVER THE INPUT: true; the input reads as it did. -/
def fnExactTrmShiftSpec : ChangeSpec := { name := "fnExactTrmShift", fn := fun _ => fun
  | [d1, d2] => { results := [.lit (.bool true)], args := [d1, d2] }
  | _ => none }
def fnExactTrmShiftRow : OpenClaim := { program := "ytddhjafpacgdaaa", sum := "e3b8e94214d49203543662849630d101aee91feae89b4ad63dd4d9367c2e5822", func := "loop.example/catechist/laws.FnExactTrmShift", spec := "fnExactTrmShift", unfollowed := true, recurses := true, apart := false }
def FnExactTrmShiftSaid : Prop := fnExactTrmShiftRow.holds Try.pinned (OpenSpec.ofChange fnExactTrmShiftSpec)

/-- ITS FALSE NEIGHBOUR: 'it returns false'. Refute it at one input. -/
def fnExactTrmShiftWrong : ChangeSpec := { name := "fnExactTrmShift", fn := fun _ => fun
  | [d1, d2] => { results := [.lit (.bool false)], args := [d1, d2] }
  | _ => none }
def FnExactTrmShiftWrongFalsely : Prop := fnExactTrmShiftRow.holds Try.pinned (OpenSpec.ofChange fnExactTrmShiftWrong)

/-- 'laws.FnExactSubGet': WHATEVER THE INPUT: true; the input reads as it did. -/
def fnExactSubGetSpec : ChangeSpec := { name := "fnExactSubGet", fn := fun _ => fun
  | [d1, d2] => { results := [.lit (.bool true)], args := [d1, d2] }
  | _ => none }
def fnExactSubGetRow : OpenClaim := { program := "ytddhjafpacgdaaa", sum := "e3b8e94214d49203543662849630d101aee91feae89b4ad63dd4d9367c2e5822", func := "loop.example/catechist/laws.FnExactSubGet", spec := "fnExactSubGet", apart := false }
def FnExactSubGetSaid : Prop := fnExactSubGetRow.holds Try.pinned (OpenSpec.ofChange fnExactSubGetSpec)

/-- ITS FALSE NEIGHBOUR: 'it returns false'. Refute it at one input. -/
def fnExactSubGetWrong : ChangeSpec := { name := "fnExactSubGet", fn := fun _ => fun
  | [d1, d2] => { results := [.lit (.bool false)], args := [d1, d2] }
  | _ => none }
def FnExactSubGetWrongFalsely : Prop := fnExactSubGetRow.holds Try.pinned (OpenSpec.ofChange fnExactSubGetWrong)

/-- 'laws.FnExactSubOk': WHATEVER THE INPUT: true; the input reads as it did. -/
def fnExactSubOkSpec : ChangeSpec := { name := "fnExactSubOk", fn := fun _ => fun
  | [d] => { results := [.lit (.bool true)], args := [d] }
  | _ => none }
def fnExactSubOkRow : OpenClaim := { program := "ytddhjafpacgdaaa", sum := "e3b8e94214d49203543662849630d101aee91feae89b4ad63dd4d9367c2e5822", func := "loop.example/catechist/laws.FnExactSubOk", spec := "fnExactSubOk", unfollowed := true, recurses := true, apart := false }
def FnExactSubOkSaid : Prop := fnExactSubOkRow.holds Try.pinned (OpenSpec.ofChange fnExactSubOkSpec)

/-- ITS FALSE NEIGHBOUR: 'it returns false'. Refute it at one input. -/
def fnExactSubOkWrong : ChangeSpec := { name := "fnExactSubOk", fn := fun _ => fun
  | [d] => { results := [.lit (.bool false)], args := [d] }
  | _ => none }
def FnExactSubOkWrongFalsely : Prop := fnExactSubOkRow.holds Try.pinned (OpenSpec.ofChange fnExactSubOkWrong)

/-- 'laws.FnExactSubFull': WHATEVER THE INPUT: true; the input reads as it did. -/
def fnExactSubFullSpec : ChangeSpec := { name := "fnExactSubFull", fn := fun _ => fun
  | [d1, d2] => { results := [.lit (.bool true)], args := [d1, d2] }
  | _ => none }
def fnExactSubFullRow : OpenClaim := { program := "ytddhjafpacgdaaa", sum := "e3b8e94214d49203543662849630d101aee91feae89b4ad63dd4d9367c2e5822", func := "loop.example/catechist/laws.FnExactSubFull", spec := "fnExactSubFull", unfollowed := true, recurses := true, apart := false }
def FnExactSubFullSaid : Prop := fnExactSubFullRow.holds Try.pinned (OpenSpec.ofChange fnExactSubFullSpec)

/-- ITS FALSE NEIGHBOUR: 'it returns false'. Refute it at one input. -/
def fnExactSubFullWrong : ChangeSpec := { name := "fnExactSubFull", fn := fun _ => fun
  | [d1, d2] => { results := [.lit (.bool false)], args := [d1, d2] }
  | _ => none }
def FnExactSubFullWrongFalsely : Prop := fnExactSubFullRow.holds Try.pinned (OpenSpec.ofChange fnExactSubFullWrong)

/-- 'laws.FnExactSubUnify': WHATEVER THE INPUT: true; the input reads as it did. -/
def fnExactSubUnifySpec : ChangeSpec := { name := "fnExactSubUnify", fn := fun _ => fun
  | [d1, d2, d3] => { results := [.lit (.bool true)], args := [d1, d2, d3] }
  | _ => none }
def fnExactSubUnifyRow : OpenClaim := { program := "ytddhjafpacgdaaa", sum := "e3b8e94214d49203543662849630d101aee91feae89b4ad63dd4d9367c2e5822", func := "loop.example/catechist/laws.FnExactSubUnify", spec := "fnExactSubUnify", unfollowed := true, recurses := true, apart := false }
def FnExactSubUnifySaid : Prop := fnExactSubUnifyRow.holds Try.pinned (OpenSpec.ofChange fnExactSubUnifySpec)

/-- ITS FALSE NEIGHBOUR: 'it returns false'. Refute it at one input. -/
def fnExactSubUnifyWrong : ChangeSpec := { name := "fnExactSubUnify", fn := fun _ => fun
  | [d1, d2, d3] => { results := [.lit (.bool false)], args := [d1, d2, d3] }
  | _ => none }
def FnExactSubUnifyWrongFalsely : Prop := fnExactSubUnifyRow.holds Try.pinned (OpenSpec.ofChange fnExactSubUnifyWrong)

/- THE SECOND FORM. 'bulk': how many values and letters a reading holds, each counted each time it is reached (what is shared counts as often as it is met; a slice's spare places count too). A statement '..UptoSaid' is the law's where the arguments, and the package variables that the reading takes, are together of bulk at most 1048576: NARROWER than '..Said'. Prove '..Said' where nothing that the law and all that it calls make is longer than what came in: it says more and counts as full. Else prove '..UptoSaid'. A law counts once. -/
mutual
def uptoBulk {H : Type} : DataW H → Nat
  | .lit (.string bytes) => bytes.length + 1
  | .lit _ => 1
  | .nil => 1
  | .ptr d => uptoBulk d + 1
  | .slice elems spare => uptoBulkAll elems + uptoBulkAll spare + 1
  | .agg parts => uptoBulkAll parts + 1
  | .iface _ d => uptoBulk d + 1
  | .map entries => uptoBulkEntries entries + 1
  | .held _ => 1
def uptoBulkAll {H : Type} : List (DataW H) → Nat
  | [] => 0
  | d :: r => uptoBulk d + uptoBulkAll r
def uptoBulkEntries {H : Type} : List (Lit × DataW H) → Nat
  | [] => 0
  | x :: r => uptoBulkEntry x + uptoBulkEntries r
def uptoBulkEntry {H : Type} : Lit × DataW H → Nat
  | (.string bytes, d) => bytes.length + uptoBulk d + 1
  | (_, d) => uptoBulk d + 1
 end
def uptoSmall : (H : Type) → List (DataW H) → Bool := fun _ ds => decide (uptoBulkAll ds ≤ 1048576)
def OpenSpec.upto (s : _root_.Go.ChangeSpec) : _root_.Go.OpenSpec := { _root_.Go.OpenSpec.ofChange s with cond := some uptoSmall }

/-- 'laws.FnTrmCanon', WHERE WHAT IT READS IS OF BULK AT MOST 1048576: true; the input reads as it did. -/
def fnTrmCanonUptoRow : OpenClaim := { program := "ytddhjafpacgdaaa", sum := "e3b8e94214d49203543662849630d101aee91feae89b4ad63dd4d9367c2e5822", func := "loop.example/catechist/laws.FnTrmCanon", spec := "fnTrmCanon", unfollowed := true, recurses := true, apart := false, narrowed := true }
def FnTrmCanonUptoSaid : Prop := fnTrmCanonUptoRow.holds Try.pinned (OpenSpec.upto fnTrmCanonSpec)

/-- 'laws.FnTrmShift', WHERE WHAT IT READS IS OF BULK AT MOST 1048576: true; the input reads as it did. -/
def fnTrmShiftUptoRow : OpenClaim := { program := "ytddhjafpacgdaaa", sum := "e3b8e94214d49203543662849630d101aee91feae89b4ad63dd4d9367c2e5822", func := "loop.example/catechist/laws.FnTrmShift", spec := "fnTrmShift", unfollowed := true, recurses := true, apart := false, narrowed := true }
def FnTrmShiftUptoSaid : Prop := fnTrmShiftUptoRow.holds Try.pinned (OpenSpec.upto fnTrmShiftSpec)

/-- 'laws.FnSubUnify', WHERE WHAT IT READS IS OF BULK AT MOST 1048576: true; the input reads as it did. -/
def fnSubUnifyUptoRow : OpenClaim := { program := "ytddhjafpacgdaaa", sum := "e3b8e94214d49203543662849630d101aee91feae89b4ad63dd4d9367c2e5822", func := "loop.example/catechist/laws.FnSubUnify", spec := "fnSubUnify", unfollowed := true, recurses := true, apart := false, narrowed := true }
def FnSubUnifyUptoSaid : Prop := fnSubUnifyUptoRow.holds Try.pinned (OpenSpec.upto fnSubUnifySpec)

/-- 'laws.FnSubMost', WHERE WHAT IT READS IS OF BULK AT MOST 1048576: true; the input reads as it did. -/
def fnSubMostUptoRow : OpenClaim := { program := "ytddhjafpacgdaaa", sum := "e3b8e94214d49203543662849630d101aee91feae89b4ad63dd4d9367c2e5822", func := "loop.example/catechist/laws.FnSubMost", spec := "fnSubMost", unfollowed := true, recurses := true, apart := false, narrowed := true }
def FnSubMostUptoSaid : Prop := fnSubMostUptoRow.holds Try.pinned (OpenSpec.upto fnSubMostSpec)

/-- 'laws.FnSubSwap', WHERE WHAT IT READS IS OF BULK AT MOST 1048576: true; the input reads as it did. -/
def fnSubSwapUptoRow : OpenClaim := { program := "ytddhjafpacgdaaa", sum := "e3b8e94214d49203543662849630d101aee91feae89b4ad63dd4d9367c2e5822", func := "loop.example/catechist/laws.FnSubSwap", spec := "fnSubSwap", unfollowed := true, recurses := true, apart := false, narrowed := true }
def FnSubSwapUptoSaid : Prop := fnSubSwapUptoRow.holds Try.pinned (OpenSpec.upto fnSubSwapSpec)

/-- 'laws.FnSubApart', WHERE WHAT IT READS IS OF BULK AT MOST 1048576: true; the input reads as it did. -/
def fnSubApartUptoRow : OpenClaim := { program := "ytddhjafpacgdaaa", sum := "e3b8e94214d49203543662849630d101aee91feae89b4ad63dd4d9367c2e5822", func := "loop.example/catechist/laws.FnSubApart", spec := "fnSubApart", unfollowed := true, recurses := true, apart := false, narrowed := true }
def FnSubApartUptoSaid : Prop := fnSubApartUptoRow.holds Try.pinned (OpenSpec.upto fnSubApartSpec)

/-- 'laws.FnSubFull', WHERE WHAT IT READS IS OF BULK AT MOST 1048576: true; the input reads as it did. -/
def fnSubFullUptoRow : OpenClaim := { program := "ytddhjafpacgdaaa", sum := "e3b8e94214d49203543662849630d101aee91feae89b4ad63dd4d9367c2e5822", func := "loop.example/catechist/laws.FnSubFull", spec := "fnSubFull", unfollowed := true, recurses := true, apart := false, narrowed := true }
def FnSubFullUptoSaid : Prop := fnSubFullUptoRow.holds Try.pinned (OpenSpec.upto fnSubFullSpec)

/-- 'laws.FnSubGet', WHERE WHAT IT READS IS OF BULK AT MOST 1048576: true; the input reads as it did. -/
def fnSubGetUptoRow : OpenClaim := { program := "ytddhjafpacgdaaa", sum := "e3b8e94214d49203543662849630d101aee91feae89b4ad63dd4d9367c2e5822", func := "loop.example/catechist/laws.FnSubGet", spec := "fnSubGet", unfollowed := true, recurses := true, apart := false, narrowed := true }
def FnSubGetUptoSaid : Prop := fnSubGetUptoRow.holds Try.pinned (OpenSpec.upto fnSubGetSpec)

/-- 'laws.FnTrmRenamed', WHERE WHAT IT READS IS OF BULK AT MOST 1048576: true; the input reads as it did. -/
def fnTrmRenamedUptoRow : OpenClaim := { program := "ytddhjafpacgdaaa", sum := "e3b8e94214d49203543662849630d101aee91feae89b4ad63dd4d9367c2e5822", func := "loop.example/catechist/laws.FnTrmRenamed", spec := "fnTrmRenamed", unfollowed := true, recurses := true, apart := false, narrowed := true }
def FnTrmRenamedUptoSaid : Prop := fnTrmRenamedUptoRow.holds Try.pinned (OpenSpec.upto fnTrmRenamedSpec)

/-- 'laws.FnSubVar', WHERE WHAT IT READS IS OF BULK AT MOST 1048576: true; the input reads as it did. -/
def fnSubVarUptoRow : OpenClaim := { program := "ytddhjafpacgdaaa", sum := "e3b8e94214d49203543662849630d101aee91feae89b4ad63dd4d9367c2e5822", func := "loop.example/catechist/laws.FnSubVar", spec := "fnSubVar", unfollowed := true, recurses := true, apart := false, narrowed := true }
def FnSubVarUptoSaid : Prop := fnSubVarUptoRow.holds Try.pinned (OpenSpec.upto fnSubVarSpec)

/-- 'laws.FnSubArgs', WHERE WHAT IT READS IS OF BULK AT MOST 1048576: true; the input reads as it did. -/
def fnSubArgsUptoRow : OpenClaim := { program := "ytddhjafpacgdaaa", sum := "e3b8e94214d49203543662849630d101aee91feae89b4ad63dd4d9367c2e5822", func := "loop.example/catechist/laws.FnSubArgs", spec := "fnSubArgs", unfollowed := true, recurses := true, apart := false, narrowed := true }
def FnSubArgsUptoSaid : Prop := fnSubArgsUptoRow.holds Try.pinned (OpenSpec.upto fnSubArgsSpec)

/-- 'laws.FnSubAgain', WHERE WHAT IT READS IS OF BULK AT MOST 1048576: true; the input reads as it did. -/
def fnSubAgainUptoRow : OpenClaim := { program := "ytddhjafpacgdaaa", sum := "e3b8e94214d49203543662849630d101aee91feae89b4ad63dd4d9367c2e5822", func := "loop.example/catechist/laws.FnSubAgain", spec := "fnSubAgain", unfollowed := true, recurses := true, apart := false, narrowed := true }
def FnSubAgainUptoSaid : Prop := fnSubAgainUptoRow.holds Try.pinned (OpenSpec.upto fnSubAgainSpec)

/-- 'laws.FnSubOk', WHERE WHAT IT READS IS OF BULK AT MOST 1048576: true; the input reads as it did. -/
def fnSubOkUptoRow : OpenClaim := { program := "ytddhjafpacgdaaa", sum := "e3b8e94214d49203543662849630d101aee91feae89b4ad63dd4d9367c2e5822", func := "loop.example/catechist/laws.FnSubOk", spec := "fnSubOk", unfollowed := true, recurses := true, apart := false, narrowed := true }
def FnSubOkUptoSaid : Prop := fnSubOkUptoRow.holds Try.pinned (OpenSpec.upto fnSubOkSpec)

/-- 'laws.FnSubTwo', WHERE WHAT IT READS IS OF BULK AT MOST 1048576: true; the input reads as it did. -/
def fnSubTwoUptoRow : OpenClaim := { program := "ytddhjafpacgdaaa", sum := "e3b8e94214d49203543662849630d101aee91feae89b4ad63dd4d9367c2e5822", func := "loop.example/catechist/laws.FnSubTwo", spec := "fnSubTwo", unfollowed := true, recurses := true, apart := false, narrowed := true }
def FnSubTwoUptoSaid : Prop := fnSubTwoUptoRow.holds Try.pinned (OpenSpec.upto fnSubTwoSpec)

/-- 'laws.FnSubGround', WHERE WHAT IT READS IS OF BULK AT MOST 1048576: true; the input reads as it did. -/
def fnSubGroundUptoRow : OpenClaim := { program := "ytddhjafpacgdaaa", sum := "e3b8e94214d49203543662849630d101aee91feae89b4ad63dd4d9367c2e5822", func := "loop.example/catechist/laws.FnSubGround", spec := "fnSubGround", unfollowed := true, recurses := true, apart := false, narrowed := true }
def FnSubGroundUptoSaid : Prop := fnSubGroundUptoRow.holds Try.pinned (OpenSpec.upto fnSubGroundSpec)

/-- 'laws.FnExactTrmShift', WHERE WHAT IT READS IS OF BULK AT MOST 1048576: true; the input reads as it did. -/
def fnExactTrmShiftUptoRow : OpenClaim := { program := "ytddhjafpacgdaaa", sum := "e3b8e94214d49203543662849630d101aee91feae89b4ad63dd4d9367c2e5822", func := "loop.example/catechist/laws.FnExactTrmShift", spec := "fnExactTrmShift", unfollowed := true, recurses := true, apart := false, narrowed := true }
def FnExactTrmShiftUptoSaid : Prop := fnExactTrmShiftUptoRow.holds Try.pinned (OpenSpec.upto fnExactTrmShiftSpec)

/-- 'laws.FnExactSubGet', WHERE WHAT IT READS IS OF BULK AT MOST 1048576: true; the input reads as it did. -/
def fnExactSubGetUptoRow : OpenClaim := { program := "ytddhjafpacgdaaa", sum := "e3b8e94214d49203543662849630d101aee91feae89b4ad63dd4d9367c2e5822", func := "loop.example/catechist/laws.FnExactSubGet", spec := "fnExactSubGet", apart := false, narrowed := true }
def FnExactSubGetUptoSaid : Prop := fnExactSubGetUptoRow.holds Try.pinned (OpenSpec.upto fnExactSubGetSpec)

/-- 'laws.FnExactSubOk', WHERE WHAT IT READS IS OF BULK AT MOST 1048576: true; the input reads as it did. -/
def fnExactSubOkUptoRow : OpenClaim := { program := "ytddhjafpacgdaaa", sum := "e3b8e94214d49203543662849630d101aee91feae89b4ad63dd4d9367c2e5822", func := "loop.example/catechist/laws.FnExactSubOk", spec := "fnExactSubOk", unfollowed := true, recurses := true, apart := false, narrowed := true }
def FnExactSubOkUptoSaid : Prop := fnExactSubOkUptoRow.holds Try.pinned (OpenSpec.upto fnExactSubOkSpec)

/-- 'laws.FnExactSubFull', WHERE WHAT IT READS IS OF BULK AT MOST 1048576: true; the input reads as it did. -/
def fnExactSubFullUptoRow : OpenClaim := { program := "ytddhjafpacgdaaa", sum := "e3b8e94214d49203543662849630d101aee91feae89b4ad63dd4d9367c2e5822", func := "loop.example/catechist/laws.FnExactSubFull", spec := "fnExactSubFull", unfollowed := true, recurses := true, apart := false, narrowed := true }
def FnExactSubFullUptoSaid : Prop := fnExactSubFullUptoRow.holds Try.pinned (OpenSpec.upto fnExactSubFullSpec)

/-- 'laws.FnExactSubUnify', WHERE WHAT IT READS IS OF BULK AT MOST 1048576: true; the input reads as it did. -/
def fnExactSubUnifyUptoRow : OpenClaim := { program := "ytddhjafpacgdaaa", sum := "e3b8e94214d49203543662849630d101aee91feae89b4ad63dd4d9367c2e5822", func := "loop.example/catechist/laws.FnExactSubUnify", spec := "fnExactSubUnify", unfollowed := true, recurses := true, apart := false, narrowed := true }
def FnExactSubUnifyUptoSaid : Prop := fnExactSubUnifyUptoRow.holds Try.pinned (OpenSpec.upto fnExactSubUnifySpec)

end Rows
end Go.Proofs.Ytddhjafpacgdaaa
