/-
  No cell of these rows narrows 'for every input' (looked for: loops, veiled, ifaces, maps, wideKeys, modest, calm, conditions, laid).
  DERIVED. THE GIVEN ROWS OF THIS SEAT. 7 by the template 'for every input the law returns true; each argument reads behind the call as it read before'; 0 by the template 'total and deterministic' (their statements: YtmiofbifffnocaaTotals.lean).
  GIVEN WITH THE SEED: the statements are not yours to turn. If you find one false, say at which input.
  Laid BY PROGRAM, IN A SANDBOX (cutbox-rows.mjs): the forced cells as the released guide's own fill.sh prints them over the translation 67d050b498dca7d0… (all of the seat's roots in one cut). By AI agents, Wed Nov 11 2026. No macro, syntax, notation, axiom, sorry.
-/
import Derived.Test.YtmiofbifffnocaaChecked
import GoSem.Claim
import GoSem.ClaimJoined
import GoSem.ClaimMapViews
import Derived.JoinedTies
import Derived.KernelRfl
namespace Go.Proofs.Ytmiofbifffnocaa
/- THE CELL 'sum', in the pinned program and in every row, IS THE sha256 OF THE DUMP (.gsa) THAT YtmiofbifffnocaaProg.lean LOADS. Nothing in Lean hashes anything: it is a label: what it is worth is what the hold of that sum in a sandbox is worth. -/
noncomputable def Try.pinned : Pinned := { name := "ytmiofbifffnocaa", sum := "67d050b498dca7d0d5222025600b63efe3a78af428ab72843bda9b755a9abf8f", checked := Try.checked }
namespace Rows
def none {H : Type} : Left H := { results := [], args := [] }

/-- 'laws.FnPrgNode': WHATEVER THE INPUT: true; the input reads as it did. -/
def fnPrgNodeSpec : ChangeSpec := { name := "fnPrgNode", fn := fun _ => fun
  | [d] => { results := [.lit (.bool true)], args := [d] }
  | _ => none }
def fnPrgNodeRow : OpenClaim := { program := "ytmiofbifffnocaa", sum := "67d050b498dca7d0d5222025600b63efe3a78af428ab72843bda9b755a9abf8f", func := "loop.example/catechist/laws.FnPrgNode", spec := "fnPrgNode", unfollowed := true, recurses := true, apart := false }
def FnPrgNodeSaid : Prop := fnPrgNodeRow.holds Try.pinned (OpenSpec.ofChange fnPrgNodeSpec)

/-- ITS FALSE NEIGHBOUR: 'it returns false'. Refute it at one input. -/
def fnPrgNodeWrong : ChangeSpec := { name := "fnPrgNode", fn := fun _ => fun
  | [d] => { results := [.lit (.bool false)], args := [d] }
  | _ => none }
def FnPrgNodeWrongFalsely : Prop := fnPrgNodeRow.holds Try.pinned (OpenSpec.ofChange fnPrgNodeWrong)

/-- 'laws.FnPrgAlone': WHATEVER THE INPUT: true; the input reads as it did. -/
def fnPrgAloneSpec : ChangeSpec := { name := "fnPrgAlone", fn := fun _ => fun
  | [d] => { results := [.lit (.bool true)], args := [d] }
  | _ => none }
def fnPrgAloneRow : OpenClaim := { program := "ytmiofbifffnocaa", sum := "67d050b498dca7d0d5222025600b63efe3a78af428ab72843bda9b755a9abf8f", func := "loop.example/catechist/laws.FnPrgAlone", spec := "fnPrgAlone", unfollowed := true, recurses := true, apart := false }
def FnPrgAloneSaid : Prop := fnPrgAloneRow.holds Try.pinned (OpenSpec.ofChange fnPrgAloneSpec)

/-- ITS FALSE NEIGHBOUR: 'it returns false'. Refute it at one input. -/
def fnPrgAloneWrong : ChangeSpec := { name := "fnPrgAlone", fn := fun _ => fun
  | [d] => { results := [.lit (.bool false)], args := [d] }
  | _ => none }
def FnPrgAloneWrongFalsely : Prop := fnPrgAloneRow.holds Try.pinned (OpenSpec.ofChange fnPrgAloneWrong)

/-- 'laws.FnGoalOk': WHATEVER THE INPUT: true; the input reads as it did. -/
def fnGoalOkSpec : ChangeSpec := { name := "fnGoalOk", fn := fun _ => fun
  | [d] => { results := [.lit (.bool true)], args := [d] }
  | _ => none }
def fnGoalOkRow : OpenClaim := { program := "ytmiofbifffnocaa", sum := "67d050b498dca7d0d5222025600b63efe3a78af428ab72843bda9b755a9abf8f", func := "loop.example/catechist/laws.FnGoalOk", spec := "fnGoalOk", unfollowed := true, recurses := true, apart := false }
def FnGoalOkSaid : Prop := fnGoalOkRow.holds Try.pinned (OpenSpec.ofChange fnGoalOkSpec)

/-- ITS FALSE NEIGHBOUR: 'it returns false'. Refute it at one input. -/
def fnGoalOkWrong : ChangeSpec := { name := "fnGoalOk", fn := fun _ => fun
  | [d] => { results := [.lit (.bool false)], args := [d] }
  | _ => none }
def FnGoalOkWrongFalsely : Prop := fnGoalOkRow.holds Try.pinned (OpenSpec.ofChange fnGoalOkWrong)

/-- 'laws.FnExactGoalOk': WHATEVER THE INPUT: true; the input reads as it did. -/
def fnExactGoalOkSpec : ChangeSpec := { name := "fnExactGoalOk", fn := fun _ => fun
  | [d] => { results := [.lit (.bool true)], args := [d] }
  | _ => none }
def fnExactGoalOkRow : OpenClaim := { program := "ytmiofbifffnocaa", sum := "67d050b498dca7d0d5222025600b63efe3a78af428ab72843bda9b755a9abf8f", func := "loop.example/catechist/laws.FnExactGoalOk", spec := "fnExactGoalOk", unfollowed := true, recurses := true, apart := false }
def FnExactGoalOkSaid : Prop := fnExactGoalOkRow.holds Try.pinned (OpenSpec.ofChange fnExactGoalOkSpec)

/-- ITS FALSE NEIGHBOUR: 'it returns false'. Refute it at one input. -/
def fnExactGoalOkWrong : ChangeSpec := { name := "fnExactGoalOk", fn := fun _ => fun
  | [d] => { results := [.lit (.bool false)], args := [d] }
  | _ => none }
def FnExactGoalOkWrongFalsely : Prop := fnExactGoalOkRow.holds Try.pinned (OpenSpec.ofChange fnExactGoalOkWrong)

/-- 'laws.FnExactPrgOk': WHATEVER THE INPUT: true; the input reads as it did. -/
def fnExactPrgOkSpec : ChangeSpec := { name := "fnExactPrgOk", fn := fun _ => fun
  | [d] => { results := [.lit (.bool true)], args := [d] }
  | _ => none }
def fnExactPrgOkRow : OpenClaim := { program := "ytmiofbifffnocaa", sum := "67d050b498dca7d0d5222025600b63efe3a78af428ab72843bda9b755a9abf8f", func := "loop.example/catechist/laws.FnExactPrgOk", spec := "fnExactPrgOk", unfollowed := true, recurses := true, apart := false }
def FnExactPrgOkSaid : Prop := fnExactPrgOkRow.holds Try.pinned (OpenSpec.ofChange fnExactPrgOkSpec)

/-- ITS FALSE NEIGHBOUR: 'it returns false'. Refute it at one input. -/
def fnExactPrgOkWrong : ChangeSpec := { name := "fnExactPrgOk", fn := fun _ => fun
  | [d] => { results := [.lit (.bool false)], args := [d] }
  | _ => none }
def FnExactPrgOkWrongFalsely : Prop := fnExactPrgOkRow.holds Try.pinned (OpenSpec.ofChange fnExactPrgOkWrong)

/-- 'laws.FnExactPrgNode': WHATEVER THE INPUT: true; the input reads as it did. -/
def fnExactPrgNodeSpec : ChangeSpec := { name := "fnExactPrgNode", fn := fun _ => fun
  | [d1, d2] => { results := [.lit (.bool true)], args := [d1, d2] }
  | _ => none }
def fnExactPrgNodeRow : OpenClaim := { program := "ytmiofbifffnocaa", sum := "67d050b498dca7d0d5222025600b63efe3a78af428ab72843bda9b755a9abf8f", func := "loop.example/catechist/laws.FnExactPrgNode", spec := "fnExactPrgNode", unfollowed := true, recurses := true, apart := false }
def FnExactPrgNodeSaid : Prop := fnExactPrgNodeRow.holds Try.pinned (OpenSpec.ofChange fnExactPrgNodeSpec)

/-- ITS FALSE NEIGHBOUR: 'it returns false'. Refute it at one input. -/
def fnExactPrgNodeWrong : ChangeSpec := { name := "fnExactPrgNode", fn := fun _ => fun
  | [d1, d2] => { results := [.lit (.bool false)], args := [d1, d2] }
  | _ => none }
def FnExactPrgNodeWrongFalsely : Prop := fnExactPrgNodeRow.holds Try.pinned (OpenSpec.ofChange fnExactPrgNodeWrong)

/-- 'laws.FnExactPrgAlone': WHATEVER THE INPUT: true; the input reads as it did. -/
def fnExactPrgAloneSpec : ChangeSpec := { name := "fnExactPrgAlone", fn := fun _ => fun
  | [d] => { results := [.lit (.bool true)], args := [d] }
  | _ => none }
def fnExactPrgAloneRow : OpenClaim := { program := "ytmiofbifffnocaa", sum := "67d050b498dca7d0d5222025600b63efe3a78af428ab72843bda9b755a9abf8f", func := "loop.example/catechist/laws.FnExactPrgAlone", spec := "fnExactPrgAlone", unfollowed := true, recurses := true, apart := false }
def FnExactPrgAloneSaid : Prop := fnExactPrgAloneRow.holds Try.pinned (OpenSpec.ofChange fnExactPrgAloneSpec)

/-- ITS FALSE NEIGHBOUR: 'it returns false'. Refute it at one input. -/
def fnExactPrgAloneWrong : ChangeSpec := { name := "fnExactPrgAlone", fn := fun _ => fun
  | [d] => { results := [.lit (.bool false)], args := [d] }
  | _ => none }
def FnExactPrgAloneWrongFalsely : Prop := fnExactPrgAloneRow.holds Try.pinned (OpenSpec.ofChange fnExactPrgAloneWrong)

/- THE SECOND FORM. 'bulk': how many values and letters a reading holds, each counted each time it is reached (what is shared counts as often as it is met; a slice's spare places count too). A statement '..UptoSaid' is the law's where the arguments, and the package variables that the reading takes, are together of bulk at most 1048576: NARROWER than '..Said'. Prove '..Said' where nothing that the law and all that it calls make is longer than what came in: it says more and counts as full. Else prove '..UptoSaid'. A law counts once. -/
mutual
def uptoBulk {H : Type} : DataW H → Nat
  | .lit (.string bytes) => bytes.length + 1
  | .lit _ => 1
  | .nil => 1
  | .ptr d => uptoBulk d + 1
  | .slice elems spare => uptoBulkAll elems + uptoBulkAll spare + 1
  | .agg parts => uptoBulkAll parts + 1
  | .iface _ d => uptoBulk d + 1
  | .map entries => uptoBulkEntries entries + 1
  | .held _ => 1
def uptoBulkAll {H : Type} : List (DataW H) → Nat
  | [] => 0
  | d :: r => uptoBulk d + uptoBulkAll r
def uptoBulkEntries {H : Type} : List (Lit × DataW H) → Nat
  | [] => 0
  | x :: r => uptoBulkEntry x + uptoBulkEntries r
def uptoBulkEntry {H : Type} : Lit × DataW H → Nat
  | (.string bytes, d) => bytes.length + uptoBulk d + 1
  | (_, d) => uptoBulk d + 1
 end
def uptoSmall : (H : Type) → List (DataW H) → Bool := fun _ ds => decide (uptoBulkAll ds ≤ 1048576)
def OpenSpec.upto (s : _root_.Go.ChangeSpec) : _root_.Go.OpenSpec := { _root_.Go.OpenSpec.ofChange s with cond := some uptoSmall }

/-- 'laws.FnPrgNode', WHERE WHAT IT READS IS OF BULK AT MOST 1048576: true; the input reads as it did. -/
def fnPrgNodeUptoRow : OpenClaim := { program := "ytmiofbifffnocaa", sum := "67d050b498dca7d0d5222025600b63efe3a78af428ab72843bda9b755a9abf8f", func := "loop.example/catechist/laws.FnPrgNode", spec := "fnPrgNode", unfollowed := true, recurses := true, apart := false, narrowed := true }
def FnPrgNodeUptoSaid : Prop := fnPrgNodeUptoRow.holds Try.pinned (OpenSpec.upto fnPrgNodeSpec)

/-- 'laws.FnPrgAlone', WHERE WHAT IT READS IS OF BULK AT MOST 1048576: true; the input reads as it did. -/
def fnPrgAloneUptoRow : OpenClaim := { program := "ytmiofbifffnocaa", sum := "67d050b498dca7d0d5222025600b63efe3a78af428ab72843bda9b755a9abf8f", func := "loop.example/catechist/laws.FnPrgAlone", spec := "fnPrgAlone", unfollowed := true, recurses := true, apart := false, narrowed := true }
def FnPrgAloneUptoSaid : Prop := fnPrgAloneUptoRow.holds Try.pinned (OpenSpec.upto fnPrgAloneSpec)

/-- 'laws.FnGoalOk', WHERE WHAT IT READS IS OF BULK AT MOST 1048576: true; the input reads as it did. -/
def fnGoalOkUptoRow : OpenClaim := { program := "ytmiofbifffnocaa", sum := "67d050b498dca7d0d5222025600b63efe3a78af428ab72843bda9b755a9abf8f", func := "loop.example/catechist/laws.FnGoalOk", spec := "fnGoalOk", unfollowed := true, recurses := true, apart := false, narrowed := true }
def FnGoalOkUptoSaid : Prop := fnGoalOkUptoRow.holds Try.pinned (OpenSpec.upto fnGoalOkSpec)

/-- 'laws.FnExactGoalOk', WHERE WHAT IT READS IS OF BULK AT MOST 1048576: true; the input reads as it did. -/
def fnExactGoalOkUptoRow : OpenClaim := { program := "ytmiofbifffnocaa", sum := "67d050b498dca7d0d5222025600b63efe3a78af428ab72843bda9b755a9abf8f", func := "loop.example/catechist/laws.FnExactGoalOk", spec := "fnExactGoalOk", unfollowed := true, recurses := true, apart := false, narrowed := true }
def FnExactGoalOkUptoSaid : Prop := fnExactGoalOkUptoRow.holds Try.pinned (OpenSpec.upto fnExactGoalOkSpec)

/-- 'laws.FnExactPrgOk', WHERE WHAT IT READS IS OF BULK AT MOST 1048576: true; the input reads as it did. -/
def fnExactPrgOkUptoRow : OpenClaim := { program := "ytmiofbifffnocaa", sum := "67d050b498dca7d0d5222025600b63efe3a78af428ab72843bda9b755a9abf8f", func := "loop.example/catechist/laws.FnExactPrgOk", spec := "fnExactPrgOk", unfollowed := true, recurses := true, apart := false, narrowed := true }
def FnExactPrgOkUptoSaid : Prop := fnExactPrgOkUptoRow.holds Try.pinned (OpenSpec.upto fnExactPrgOkSpec)

/-- 'laws.FnExactPrgNode', WHERE WHAT IT READS IS OF BULK AT MOST 1048576: true; the input reads as it did. -/
def fnExactPrgNodeUptoRow : OpenClaim := { program := "ytmiofbifffnocaa", sum := "67d050b498dca7d0d5222025600b63efe3a78af428ab72843bda9b755a9abf8f", func := "loop.example/catechist/laws.FnExactPrgNode", spec := "fnExactPrgNode", unfollowed := true, recurses := true, apart := false, narrowed := true }
def FnExactPrgNodeUptoSaid : Prop := fnExactPrgNodeUptoRow.holds Try.pinned (OpenSpec.upto fnExactPrgNodeSpec)

/-- 'laws.FnExactPrgAlone', WHERE WHAT IT READS IS OF BULK AT MOST 1048576: true; the input reads as it did. -/
def fnExactPrgAloneUptoRow : OpenClaim := { program := "ytmiofbifffnocaa", sum := "67d050b498dca7d0d5222025600b63efe3a78af428ab72843bda9b755a9abf8f", func := "loop.example/catechist/laws.FnExactPrgAlone", spec := "fnExactPrgAlone", unfollowed := true, recurses := true, apart := false, narrowed := true }
def FnExactPrgAloneUptoSaid : Prop := fnExactPrgAloneUptoRow.holds Try.pinned (OpenSpec.upto fnExactPrgAloneSpec)

end Rows
end Go.Proofs.Ytmiofbifffnocaa
