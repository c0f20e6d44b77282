/-
  No cell of these rows narrows 'for every input' (looked for: loops, veiled, ifaces, maps, wideKeys, modest, calm, conditions, laid).
  DERIVED. THE GIVEN ROWS OF THIS SEAT. 15 by the template 'for every input the law returns true; each argument reads behind the call as it read before'; 0 by the template 'total and deterministic' (their statements: YtcbgpoofepchmaaTotals.lean).
  GIVEN WITH THE SEED: the statements are not yours to turn. If you find one false, say at which input.
  Laid BY PROGRAM, IN A SANDBOX (cutbox-rows.mjs): the forced cells as the released guide's own fill.sh prints them over the translation a5c95cb3de5fd9d3… (all of the seat's roots in one cut). By AI agents, Wed Nov 11 2026. No macro, syntax, notation, axiom, sorry.
-/
import Derived.Test.YtcbgpoofepchmaaChecked
import GoSem.Claim
import GoSem.ClaimJoined
import GoSem.ClaimMapViews
import Derived.JoinedTies
import Derived.KernelRfl
namespace Go.Proofs.Ytcbgpoofepchmaa
/- THE CELL 'sum', in the pinned program and in every row, IS THE sha256 OF THE DUMP (.gsa) THAT YtcbgpoofepchmaaProg.lean LOADS. Nothing in Lean hashes anything: it is a label: what it is worth is what the hold of that sum in a sandbox is worth. -/
noncomputable def Try.pinned : Pinned := { name := "ytcbgpoofepchmaa", sum := "a5c95cb3de5fd9d3ca0cb05bc572d136b32b18ab68665c23cfdf13ad4a22458c", checked := Try.checked }
namespace Rows
def none {H : Type} : Left H := { results := [], args := [] }

/-- 'laws.FnTrmArg': WHATEVER THE INPUT: true; the input reads as it did. -/
def fnTrmArgSpec : ChangeSpec := { name := "fnTrmArg", fn := fun _ => fun
  | [d] => { results := [.lit (.bool true)], args := [d] }
  | _ => none }
def fnTrmArgRow : OpenClaim := { program := "ytcbgpoofepchmaa", sum := "a5c95cb3de5fd9d3ca0cb05bc572d136b32b18ab68665c23cfdf13ad4a22458c", func := "loop.example/catechist/laws.FnTrmArg", spec := "fnTrmArg", unfollowed := true, recurses := true, apart := false }
def FnTrmArgSaid : Prop := fnTrmArgRow.holds Try.pinned (OpenSpec.ofChange fnTrmArgSpec)

/-- ITS FALSE NEIGHBOUR: 'it returns false'. Refute it at one input. -/
def fnTrmArgWrong : ChangeSpec := { name := "fnTrmArg", fn := fun _ => fun
  | [d] => { results := [.lit (.bool false)], args := [d] }
  | _ => none }
def FnTrmArgWrongFalsely : Prop := fnTrmArgRow.holds Try.pinned (OpenSpec.ofChange fnTrmArgWrong)

/-- 'laws.FnTrmMake': WHATEVER THE INPUT: true; the input reads as it did. -/
def fnTrmMakeSpec : ChangeSpec := { name := "fnTrmMake", fn := fun _ => fun
  | [d] => { results := [.lit (.bool true)], args := [d] }
  | _ => none }
def fnTrmMakeRow : OpenClaim := { program := "ytcbgpoofepchmaa", sum := "a5c95cb3de5fd9d3ca0cb05bc572d136b32b18ab68665c23cfdf13ad4a22458c", func := "loop.example/catechist/laws.FnTrmMake", spec := "fnTrmMake", unfollowed := true, recurses := true, apart := false }
def FnTrmMakeSaid : Prop := fnTrmMakeRow.holds Try.pinned (OpenSpec.ofChange fnTrmMakeSpec)

/-- ITS FALSE NEIGHBOUR: 'it returns false'. Refute it at one input. -/
def fnTrmMakeWrong : ChangeSpec := { name := "fnTrmMake", fn := fun _ => fun
  | [d] => { results := [.lit (.bool false)], args := [d] }
  | _ => none }
def FnTrmMakeWrongFalsely : Prop := fnTrmMakeRow.holds Try.pinned (OpenSpec.ofChange fnTrmMakeWrong)

/-- 'laws.FnTrmCanon': WHATEVER THE INPUT: true; the input reads as it did. -/
def fnTrmCanonSpec : ChangeSpec := { name := "fnTrmCanon", fn := fun _ => fun
  | [d1, d2] => { results := [.lit (.bool true)], args := [d1, d2] }
  | _ => none }
def fnTrmCanonRow : OpenClaim := { program := "ytcbgpoofepchmaa", sum := "a5c95cb3de5fd9d3ca0cb05bc572d136b32b18ab68665c23cfdf13ad4a22458c", func := "loop.example/catechist/laws.FnTrmCanon", spec := "fnTrmCanon", unfollowed := true, recurses := true, apart := false }
def FnTrmCanonSaid : Prop := fnTrmCanonRow.holds Try.pinned (OpenSpec.ofChange fnTrmCanonSpec)

/-- ITS FALSE NEIGHBOUR: 'it returns false'. Refute it at one input. -/
def fnTrmCanonWrong : ChangeSpec := { name := "fnTrmCanon", fn := fun _ => fun
  | [d1, d2] => { results := [.lit (.bool false)], args := [d1, d2] }
  | _ => none }
def FnTrmCanonWrongFalsely : Prop := fnTrmCanonRow.holds Try.pinned (OpenSpec.ofChange fnTrmCanonWrong)

/-- 'laws.FnTrmShift': WHATEVER THE INPUT: true; the input reads as it did. -/
def fnTrmShiftSpec : ChangeSpec := { name := "fnTrmShift", fn := fun _ => fun
  | [d] => { results := [.lit (.bool true)], args := [d] }
  | _ => none }
def fnTrmShiftRow : OpenClaim := { program := "ytcbgpoofepchmaa", sum := "a5c95cb3de5fd9d3ca0cb05bc572d136b32b18ab68665c23cfdf13ad4a22458c", func := "loop.example/catechist/laws.FnTrmShift", spec := "fnTrmShift", unfollowed := true, recurses := true, apart := false }
def FnTrmShiftSaid : Prop := fnTrmShiftRow.holds Try.pinned (OpenSpec.ofChange fnTrmShiftSpec)

/-- ITS FALSE NEIGHBOUR: 'it returns false'. Refute it at one input. -/
def fnTrmShiftWrong : ChangeSpec := { name := "fnTrmShift", fn := fun _ => fun
  | [d] => { results := [.lit (.bool false)], args := [d] }
  | _ => none }
def FnTrmShiftWrongFalsely : Prop := fnTrmShiftRow.holds Try.pinned (OpenSpec.ofChange fnTrmShiftWrong)

/-- 'laws.FnTrmFree': WHATEVER THE INPUT: true; the input reads as it did. -/
def fnTrmFreeSpec : ChangeSpec := { name := "fnTrmFree", fn := fun _ => fun
  | [d] => { results := [.lit (.bool true)], args := [d] }
  | _ => none }
def fnTrmFreeRow : OpenClaim := { program := "ytcbgpoofepchmaa", sum := "a5c95cb3de5fd9d3ca0cb05bc572d136b32b18ab68665c23cfdf13ad4a22458c", func := "loop.example/catechist/laws.FnTrmFree", spec := "fnTrmFree", unfollowed := true, recurses := true, apart := false }
def FnTrmFreeSaid : Prop := fnTrmFreeRow.holds Try.pinned (OpenSpec.ofChange fnTrmFreeSpec)

/-- ITS FALSE NEIGHBOUR: 'it returns false'. Refute it at one input. -/
def fnTrmFreeWrong : ChangeSpec := { name := "fnTrmFree", fn := fun _ => fun
  | [d] => { results := [.lit (.bool false)], args := [d] }
  | _ => none }
def FnTrmFreeWrongFalsely : Prop := fnTrmFreeRow.holds Try.pinned (OpenSpec.ofChange fnTrmFreeWrong)

/-- 'laws.FnTrmRenamed': WHATEVER THE INPUT: true; the input reads as it did. -/
def fnTrmRenamedSpec : ChangeSpec := { name := "fnTrmRenamed", fn := fun _ => fun
  | [d] => { results := [.lit (.bool true)], args := [d] }
  | _ => none }
def fnTrmRenamedRow : OpenClaim := { program := "ytcbgpoofepchmaa", sum := "a5c95cb3de5fd9d3ca0cb05bc572d136b32b18ab68665c23cfdf13ad4a22458c", func := "loop.example/catechist/laws.FnTrmRenamed", spec := "fnTrmRenamed", unfollowed := true, recurses := true, apart := false }
def FnTrmRenamedSaid : Prop := fnTrmRenamedRow.holds Try.pinned (OpenSpec.ofChange fnTrmRenamedSpec)

/-- ITS FALSE NEIGHBOUR: 'it returns false'. Refute it at one input. -/
def fnTrmRenamedWrong : ChangeSpec := { name := "fnTrmRenamed", fn := fun _ => fun
  | [d] => { results := [.lit (.bool false)], args := [d] }
  | _ => none }
def FnTrmRenamedWrongFalsely : Prop := fnTrmRenamedRow.holds Try.pinned (OpenSpec.ofChange fnTrmRenamedWrong)

/-- 'laws.FnTrmWhole': WHATEVER THE INPUT: true; the input reads as it did. -/
def fnTrmWholeSpec : ChangeSpec := { name := "fnTrmWhole", fn := fun _ => fun
  | [d] => { results := [.lit (.bool true)], args := [d] }
  | _ => none }
def fnTrmWholeRow : OpenClaim := { program := "ytcbgpoofepchmaa", sum := "a5c95cb3de5fd9d3ca0cb05bc572d136b32b18ab68665c23cfdf13ad4a22458c", func := "loop.example/catechist/laws.FnTrmWhole", spec := "fnTrmWhole", unfollowed := true, recurses := true, apart := false }
def FnTrmWholeSaid : Prop := fnTrmWholeRow.holds Try.pinned (OpenSpec.ofChange fnTrmWholeSpec)

/-- ITS FALSE NEIGHBOUR: 'it returns false'. Refute it at one input. -/
def fnTrmWholeWrong : ChangeSpec := { name := "fnTrmWhole", fn := fun _ => fun
  | [d] => { results := [.lit (.bool false)], args := [d] }
  | _ => none }
def FnTrmWholeWrongFalsely : Prop := fnTrmWholeRow.holds Try.pinned (OpenSpec.ofChange fnTrmWholeWrong)

/-- 'laws.FnTrmArgs': WHATEVER THE INPUT: true; the input reads as it did. -/
def fnTrmArgsSpec : ChangeSpec := { name := "fnTrmArgs", fn := fun _ => fun
  | [d] => { results := [.lit (.bool true)], args := [d] }
  | _ => none }
def fnTrmArgsRow : OpenClaim := { program := "ytcbgpoofepchmaa", sum := "a5c95cb3de5fd9d3ca0cb05bc572d136b32b18ab68665c23cfdf13ad4a22458c", func := "loop.example/catechist/laws.FnTrmArgs", spec := "fnTrmArgs", unfollowed := true, recurses := true, apart := false }
def FnTrmArgsSaid : Prop := fnTrmArgsRow.holds Try.pinned (OpenSpec.ofChange fnTrmArgsSpec)

/-- ITS FALSE NEIGHBOUR: 'it returns false'. Refute it at one input. -/
def fnTrmArgsWrong : ChangeSpec := { name := "fnTrmArgs", fn := fun _ => fun
  | [d] => { results := [.lit (.bool false)], args := [d] }
  | _ => none }
def FnTrmArgsWrongFalsely : Prop := fnTrmArgsRow.holds Try.pinned (OpenSpec.ofChange fnTrmArgsWrong)

/-- 'laws.FnExactTrmOk': WHATEVER THE INPUT: true; the input reads as it did. -/
def fnExactTrmOkSpec : ChangeSpec := { name := "fnExactTrmOk", fn := fun _ => fun
  | [d] => { results := [.lit (.bool true)], args := [d] }
  | _ => none }
def fnExactTrmOkRow : OpenClaim := { program := "ytcbgpoofepchmaa", sum := "a5c95cb3de5fd9d3ca0cb05bc572d136b32b18ab68665c23cfdf13ad4a22458c", func := "loop.example/catechist/laws.FnExactTrmOk", spec := "fnExactTrmOk", unfollowed := true, recurses := true, apart := false }
def FnExactTrmOkSaid : Prop := fnExactTrmOkRow.holds Try.pinned (OpenSpec.ofChange fnExactTrmOkSpec)

/-- ITS FALSE NEIGHBOUR: 'it returns false'. Refute it at one input. -/
def fnExactTrmOkWrong : ChangeSpec := { name := "fnExactTrmOk", fn := fun _ => fun
  | [d] => { results := [.lit (.bool false)], args := [d] }
  | _ => none }
def FnExactTrmOkWrongFalsely : Prop := fnExactTrmOkRow.holds Try.pinned (OpenSpec.ofChange fnExactTrmOkWrong)

/-- 'laws.FnExactTrmArg': WHATEVER THE INPUT: true; the input reads as it did. -/
def fnExactTrmArgSpec : ChangeSpec := { name := "fnExactTrmArg", fn := fun _ => fun
  | [d1, d2] => { results := [.lit (.bool true)], args := [d1, d2] }
  | _ => none }
def fnExactTrmArgRow : OpenClaim := { program := "ytcbgpoofepchmaa", sum := "a5c95cb3de5fd9d3ca0cb05bc572d136b32b18ab68665c23cfdf13ad4a22458c", func := "loop.example/catechist/laws.FnExactTrmArg", spec := "fnExactTrmArg", unfollowed := true, recurses := true, apart := false }
def FnExactTrmArgSaid : Prop := fnExactTrmArgRow.holds Try.pinned (OpenSpec.ofChange fnExactTrmArgSpec)

/-- ITS FALSE NEIGHBOUR: 'it returns false'. Refute it at one input. -/
def fnExactTrmArgWrong : ChangeSpec := { name := "fnExactTrmArg", fn := fun _ => fun
  | [d1, d2] => { results := [.lit (.bool false)], args := [d1, d2] }
  | _ => none }
def FnExactTrmArgWrongFalsely : Prop := fnExactTrmArgRow.holds Try.pinned (OpenSpec.ofChange fnExactTrmArgWrong)

/-- 'laws.FnExactTrmMake': WHATEVER THE INPUT: true; the input reads as it did. -/
def fnExactTrmMakeSpec : ChangeSpec := { name := "fnExactTrmMake", fn := fun _ => fun
  | [d1, d2] => { results := [.lit (.bool true)], args := [d1, d2] }
  | _ => none }
def fnExactTrmMakeRow : OpenClaim := { program := "ytcbgpoofepchmaa", sum := "a5c95cb3de5fd9d3ca0cb05bc572d136b32b18ab68665c23cfdf13ad4a22458c", func := "loop.example/catechist/laws.FnExactTrmMake", spec := "fnExactTrmMake", unfollowed := true, recurses := true, apart := false }
def FnExactTrmMakeSaid : Prop := fnExactTrmMakeRow.holds Try.pinned (OpenSpec.ofChange fnExactTrmMakeSpec)

/-- ITS FALSE NEIGHBOUR: 'it returns false'. Refute it at one input. -/
def fnExactTrmMakeWrong : ChangeSpec := { name := "fnExactTrmMake", fn := fun _ => fun
  | [d1, d2] => { results := [.lit (.bool false)], args := [d1, d2] }
  | _ => none }
def FnExactTrmMakeWrongFalsely : Prop := fnExactTrmMakeRow.holds Try.pinned (OpenSpec.ofChange fnExactTrmMakeWrong)

/-- 'laws.FnExactTrmFree': WHATEVER THE INPUT: true; the input reads as it did. -/
def fnExactTrmFreeSpec : ChangeSpec := { name := "fnExactTrmFree", fn := fun _ => fun
  | [d] => { results := [.lit (.bool true)], args := [d] }
  | _ => none }
def fnExactTrmFreeRow : OpenClaim := { program := "ytcbgpoofepchmaa", sum := "a5c95cb3de5fd9d3ca0cb05bc572d136b32b18ab68665c23cfdf13ad4a22458c", func := "loop.example/catechist/laws.FnExactTrmFree", spec := "fnExactTrmFree", apart := false }
def FnExactTrmFreeSaid : Prop := fnExactTrmFreeRow.holds Try.pinned (OpenSpec.ofChange fnExactTrmFreeSpec)

/-- ITS FALSE NEIGHBOUR: 'it returns false'. Refute it at one input. -/
def fnExactTrmFreeWrong : ChangeSpec := { name := "fnExactTrmFree", fn := fun _ => fun
  | [d] => { results := [.lit (.bool false)], args := [d] }
  | _ => none }
def FnExactTrmFreeWrongFalsely : Prop := fnExactTrmFreeRow.holds Try.pinned (OpenSpec.ofChange fnExactTrmFreeWrong)

/-- 'laws.FnExactTrmShift': WHATEVER THE INPUT: true; the input reads as it did. -/
def fnExactTrmShiftSpec : ChangeSpec := { name := "fnExactTrmShift", fn := fun _ => fun
  | [d1, d2] => { results := [.lit (.bool true)], args := [d1, d2] }
  | _ => none }
def fnExactTrmShiftRow : OpenClaim := { program := "ytcbgpoofepchmaa", sum := "a5c95cb3de5fd9d3ca0cb05bc572d136b32b18ab68665c23cfdf13ad4a22458c", func := "loop.example/catechist/laws.FnExactTrmShift", spec := "fnExactTrmShift", unfollowed := true, recurses := true, apart := false }
def FnExactTrmShiftSaid : Prop := fnExactTrmShiftRow.holds Try.pinned (OpenSpec.ofChange fnExactTrmShiftSpec)

/-- ITS FALSE NEIGHBOUR: 'it returns false'. Refute it at one input. -/
def fnExactTrmShiftWrong : ChangeSpec := { name := "fnExactTrmShift", fn := fun _ => fun
  | [d1, d2] => { results := [.lit (.bool false)], args := [d1, d2] }
  | _ => none }
def FnExactTrmShiftWrongFalsely : Prop := fnExactTrmShiftRow.holds Try.pinned (OpenSpec.ofChange fnExactTrmShiftWrong)

/-- 'laws.FnExactTrmCanon': WHATEVER THE INPUT: true; the input reads as it did. -/
def fnExactTrmCanonSpec : ChangeSpec := { name := "fnExactTrmCanon", fn := fun _ => fun
  | [d] => { results := [.lit (.bool true)], args := [d] }
  | _ => none }
def fnExactTrmCanonRow : OpenClaim := { program := "ytcbgpoofepchmaa", sum := "a5c95cb3de5fd9d3ca0cb05bc572d136b32b18ab68665c23cfdf13ad4a22458c", func := "loop.example/catechist/laws.FnExactTrmCanon", spec := "fnExactTrmCanon", apart := false }
def FnExactTrmCanonSaid : Prop := fnExactTrmCanonRow.holds Try.pinned (OpenSpec.ofChange fnExactTrmCanonSpec)

/-- ITS FALSE NEIGHBOUR: 'it returns false'. Refute it at one input. -/
def fnExactTrmCanonWrong : ChangeSpec := { name := "fnExactTrmCanon", fn := fun _ => fun
  | [d] => { results := [.lit (.bool false)], args := [d] }
  | _ => none }
def FnExactTrmCanonWrongFalsely : Prop := fnExactTrmCanonRow.holds Try.pinned (OpenSpec.ofChange fnExactTrmCanonWrong)

/-- 'laws.FnExactTrmSame': WHATEVER THE INPUT: true; the input reads as it did. -/
def fnExactTrmSameSpec : ChangeSpec := { name := "fnExactTrmSame", fn := fun _ => fun
  | [d1, d2] => { results := [.lit (.bool true)], args := [d1, d2] }
  | _ => none }
def fnExactTrmSameRow : OpenClaim := { program := "ytcbgpoofepchmaa", sum := "a5c95cb3de5fd9d3ca0cb05bc572d136b32b18ab68665c23cfdf13ad4a22458c", func := "loop.example/catechist/laws.FnExactTrmSame", spec := "fnExactTrmSame", apart := false }
def FnExactTrmSameSaid : Prop := fnExactTrmSameRow.holds Try.pinned (OpenSpec.ofChange fnExactTrmSameSpec)

/-- ITS FALSE NEIGHBOUR: 'it returns false'. Refute it at one input. -/
def fnExactTrmSameWrong : ChangeSpec := { name := "fnExactTrmSame", fn := fun _ => fun
  | [d1, d2] => { results := [.lit (.bool false)], args := [d1, d2] }
  | _ => none }
def FnExactTrmSameWrongFalsely : Prop := fnExactTrmSameRow.holds Try.pinned (OpenSpec.ofChange fnExactTrmSameWrong)

/- THE SECOND FORM. 'bulk': how many values and letters a reading holds, each counted each time it is reached (what is shared counts as often as it is met; a slice's spare places count too). A statement '..UptoSaid' is the law's where the arguments, and the package variables that the reading takes, are together of bulk at most 1048576: NARROWER than '..Said'. Prove '..Said' where nothing that the law and all that it calls make is longer than what came in: it says more and counts as full. Else prove '..UptoSaid'. A law counts once. -/
mutual
def uptoBulk {H : Type} : DataW H → Nat
  | .lit (.string bytes) => bytes.length + 1
  | .lit _ => 1
  | .nil => 1
  | .ptr d => uptoBulk d + 1
  | .slice elems spare => uptoBulkAll elems + uptoBulkAll spare + 1
  | .agg parts => uptoBulkAll parts + 1
  | .iface _ d => uptoBulk d + 1
  | .map entries => uptoBulkEntries entries + 1
  | .held _ => 1
def uptoBulkAll {H : Type} : List (DataW H) → Nat
  | [] => 0
  | d :: r => uptoBulk d + uptoBulkAll r
def uptoBulkEntries {H : Type} : List (Lit × DataW H) → Nat
  | [] => 0
  | x :: r => uptoBulkEntry x + uptoBulkEntries r
def uptoBulkEntry {H : Type} : Lit × DataW H → Nat
  | (.string bytes, d) => bytes.length + uptoBulk d + 1
  | (_, d) => uptoBulk d + 1
 end
def uptoSmall : (H : Type) → List (DataW H) → Bool := fun _ ds => decide (uptoBulkAll ds ≤ 1048576)
def OpenSpec.upto (s : _root_.Go.ChangeSpec) : _root_.Go.OpenSpec := { _root_.Go.OpenSpec.ofChange s with cond := some uptoSmall }

/-- 'laws.FnTrmArg', WHERE WHAT IT READS IS OF BULK AT MOST 1048576: true; the input reads as it did. -/
def fnTrmArgUptoRow : OpenClaim := { program := "ytcbgpoofepchmaa", sum := "a5c95cb3de5fd9d3ca0cb05bc572d136b32b18ab68665c23cfdf13ad4a22458c", func := "loop.example/catechist/laws.FnTrmArg", spec := "fnTrmArg", unfollowed := true, recurses := true, apart := false, narrowed := true }
def FnTrmArgUptoSaid : Prop := fnTrmArgUptoRow.holds Try.pinned (OpenSpec.upto fnTrmArgSpec)

/-- 'laws.FnTrmMake', WHERE WHAT IT READS IS OF BULK AT MOST 1048576: true; the input reads as it did. -/
def fnTrmMakeUptoRow : OpenClaim := { program := "ytcbgpoofepchmaa", sum := "a5c95cb3de5fd9d3ca0cb05bc572d136b32b18ab68665c23cfdf13ad4a22458c", func := "loop.example/catechist/laws.FnTrmMake", spec := "fnTrmMake", unfollowed := true, recurses := true, apart := false, narrowed := true }
def FnTrmMakeUptoSaid : Prop := fnTrmMakeUptoRow.holds Try.pinned (OpenSpec.upto fnTrmMakeSpec)

/-- 'laws.FnTrmCanon', WHERE WHAT IT READS IS OF BULK AT MOST 1048576: true; the input reads as it did. -/
def fnTrmCanonUptoRow : OpenClaim := { program := "ytcbgpoofepchmaa", sum := "a5c95cb3de5fd9d3ca0cb05bc572d136b32b18ab68665c23cfdf13ad4a22458c", func := "loop.example/catechist/laws.FnTrmCanon", spec := "fnTrmCanon", unfollowed := true, recurses := true, apart := false, narrowed := true }
def FnTrmCanonUptoSaid : Prop := fnTrmCanonUptoRow.holds Try.pinned (OpenSpec.upto fnTrmCanonSpec)

/-- 'laws.FnTrmShift', WHERE WHAT IT READS IS OF BULK AT MOST 1048576: true; the input reads as it did. -/
def fnTrmShiftUptoRow : OpenClaim := { program := "ytcbgpoofepchmaa", sum := "a5c95cb3de5fd9d3ca0cb05bc572d136b32b18ab68665c23cfdf13ad4a22458c", func := "loop.example/catechist/laws.FnTrmShift", spec := "fnTrmShift", unfollowed := true, recurses := true, apart := false, narrowed := true }
def FnTrmShiftUptoSaid : Prop := fnTrmShiftUptoRow.holds Try.pinned (OpenSpec.upto fnTrmShiftSpec)

/-- 'laws.FnTrmFree', WHERE WHAT IT READS IS OF BULK AT MOST 1048576: true; the input reads as it did. -/
def fnTrmFreeUptoRow : OpenClaim := { program := "ytcbgpoofepchmaa", sum := "a5c95cb3de5fd9d3ca0cb05bc572d136b32b18ab68665c23cfdf13ad4a22458c", func := "loop.example/catechist/laws.FnTrmFree", spec := "fnTrmFree", unfollowed := true, recurses := true, apart := false, narrowed := true }
def FnTrmFreeUptoSaid : Prop := fnTrmFreeUptoRow.holds Try.pinned (OpenSpec.upto fnTrmFreeSpec)

/-- 'laws.FnTrmRenamed', WHERE WHAT IT READS IS OF BULK AT MOST 1048576: true; the input reads as it did. -/
def fnTrmRenamedUptoRow : OpenClaim := { program := "ytcbgpoofepchmaa", sum := "a5c95cb3de5fd9d3ca0cb05bc572d136b32b18ab68665c23cfdf13ad4a22458c", func := "loop.example/catechist/laws.FnTrmRenamed", spec := "fnTrmRenamed", unfollowed := true, recurses := true, apart := false, narrowed := true }
def FnTrmRenamedUptoSaid : Prop := fnTrmRenamedUptoRow.holds Try.pinned (OpenSpec.upto fnTrmRenamedSpec)

/-- 'laws.FnTrmWhole', WHERE WHAT IT READS IS OF BULK AT MOST 1048576: true; the input reads as it did. -/
def fnTrmWholeUptoRow : OpenClaim := { program := "ytcbgpoofepchmaa", sum := "a5c95cb3de5fd9d3ca0cb05bc572d136b32b18ab68665c23cfdf13ad4a22458c", func := "loop.example/catechist/laws.FnTrmWhole", spec := "fnTrmWhole", unfollowed := true, recurses := true, apart := false, narrowed := true }
def FnTrmWholeUptoSaid : Prop := fnTrmWholeUptoRow.holds Try.pinned (OpenSpec.upto fnTrmWholeSpec)

/-- 'laws.FnTrmArgs', WHERE WHAT IT READS IS OF BULK AT MOST 1048576: true; the input reads as it did. -/
def fnTrmArgsUptoRow : OpenClaim := { program := "ytcbgpoofepchmaa", sum := "a5c95cb3de5fd9d3ca0cb05bc572d136b32b18ab68665c23cfdf13ad4a22458c", func := "loop.example/catechist/laws.FnTrmArgs", spec := "fnTrmArgs", unfollowed := true, recurses := true, apart := false, narrowed := true }
def FnTrmArgsUptoSaid : Prop := fnTrmArgsUptoRow.holds Try.pinned (OpenSpec.upto fnTrmArgsSpec)

/-- 'laws.FnExactTrmOk', WHERE WHAT IT READS IS OF BULK AT MOST 1048576: true; the input reads as it did. -/
def fnExactTrmOkUptoRow : OpenClaim := { program := "ytcbgpoofepchmaa", sum := "a5c95cb3de5fd9d3ca0cb05bc572d136b32b18ab68665c23cfdf13ad4a22458c", func := "loop.example/catechist/laws.FnExactTrmOk", spec := "fnExactTrmOk", unfollowed := true, recurses := true, apart := false, narrowed := true }
def FnExactTrmOkUptoSaid : Prop := fnExactTrmOkUptoRow.holds Try.pinned (OpenSpec.upto fnExactTrmOkSpec)

/-- 'laws.FnExactTrmArg', WHERE WHAT IT READS IS OF BULK AT MOST 1048576: true; the input reads as it did. -/
def fnExactTrmArgUptoRow : OpenClaim := { program := "ytcbgpoofepchmaa", sum := "a5c95cb3de5fd9d3ca0cb05bc572d136b32b18ab68665c23cfdf13ad4a22458c", func := "loop.example/catechist/laws.FnExactTrmArg", spec := "fnExactTrmArg", unfollowed := true, recurses := true, apart := false, narrowed := true }
def FnExactTrmArgUptoSaid : Prop := fnExactTrmArgUptoRow.holds Try.pinned (OpenSpec.upto fnExactTrmArgSpec)

/-- 'laws.FnExactTrmMake', WHERE WHAT IT READS IS OF BULK AT MOST 1048576: true; the input reads as it did. -/
def fnExactTrmMakeUptoRow : OpenClaim := { program := "ytcbgpoofepchmaa", sum := "a5c95cb3de5fd9d3ca0cb05bc572d136b32b18ab68665c23cfdf13ad4a22458c", func := "loop.example/catechist/laws.FnExactTrmMake", spec := "fnExactTrmMake", unfollowed := true, recurses := true, apart := false, narrowed := true }
def FnExactTrmMakeUptoSaid : Prop := fnExactTrmMakeUptoRow.holds Try.pinned (OpenSpec.upto fnExactTrmMakeSpec)

/-- 'laws.FnExactTrmFree', WHERE WHAT IT READS IS OF BULK AT MOST 1048576: true; the input reads as it did. -/
def fnExactTrmFreeUptoRow : OpenClaim := { program := "ytcbgpoofepchmaa", sum := "a5c95cb3de5fd9d3ca0cb05bc572d136b32b18ab68665c23cfdf13ad4a22458c", func := "loop.example/catechist/laws.FnExactTrmFree", spec := "fnExactTrmFree", apart := false, narrowed := true }
def FnExactTrmFreeUptoSaid : Prop := fnExactTrmFreeUptoRow.holds Try.pinned (OpenSpec.upto fnExactTrmFreeSpec)

/-- 'laws.FnExactTrmShift', WHERE WHAT IT READS IS OF BULK AT MOST 1048576: true; the input reads as it did. -/
def fnExactTrmShiftUptoRow : OpenClaim := { program := "ytcbgpoofepchmaa", sum := "a5c95cb3de5fd9d3ca0cb05bc572d136b32b18ab68665c23cfdf13ad4a22458c", func := "loop.example/catechist/laws.FnExactTrmShift", spec := "fnExactTrmShift", unfollowed := true, recurses := true, apart := false, narrowed := true }
def FnExactTrmShiftUptoSaid : Prop := fnExactTrmShiftUptoRow.holds Try.pinned (OpenSpec.upto fnExactTrmShiftSpec)

/-- 'laws.FnExactTrmCanon', WHERE WHAT IT READS IS OF BULK AT MOST 1048576: true; the input reads as it did. -/
def fnExactTrmCanonUptoRow : OpenClaim := { program := "ytcbgpoofepchmaa", sum := "a5c95cb3de5fd9d3ca0cb05bc572d136b32b18ab68665c23cfdf13ad4a22458c", func := "loop.example/catechist/laws.FnExactTrmCanon", spec := "fnExactTrmCanon", apart := false, narrowed := true }
def FnExactTrmCanonUptoSaid : Prop := fnExactTrmCanonUptoRow.holds Try.pinned (OpenSpec.upto fnExactTrmCanonSpec)

/-- 'laws.FnExactTrmSame', WHERE WHAT IT READS IS OF BULK AT MOST 1048576: true; the input reads as it did. -/
def fnExactTrmSameUptoRow : OpenClaim := { program := "ytcbgpoofepchmaa", sum := "a5c95cb3de5fd9d3ca0cb05bc572d136b32b18ab68665c23cfdf13ad4a22458c", func := "loop.example/catechist/laws.FnExactTrmSame", spec := "fnExactTrmSame", apart := false, narrowed := true }
def FnExactTrmSameUptoSaid : Prop := fnExactTrmSameUptoRow.holds Try.pinned (OpenSpec.upto fnExactTrmSameSpec)

end Rows
end Go.Proofs.Ytcbgpoofepchmaa
