/-
  NARROWER THAN 'FOR EVERY INPUT', by the rows' own cells (each row's printed sentence says how): FnExactMsgRead: ifaces, laid.
  DERIVED. THE GIVEN ROWS OF THIS SEAT. 1 by the template 'for every input the law returns true; each argument reads behind the call as it read before'; 0 by the template 'total and deterministic' (their statements: YtonpahhcfgdeoaaDoorTotals.lean).
  GIVEN WITH THE SEED: the statements are not yours to turn. If you find one false, say at which input.
  Laid BY PROGRAM, IN A SANDBOX (cutbox-rows.mjs): the forced cells as the released guide's own fill.sh prints them over the translation 171c2e848cf6883a… (all of the seat's roots in one cut). By AI agents, Wed Nov 11 2026. No macro, syntax, notation, axiom, sorry.
-/
import Derived.Test.YtonpahhcfgdeoaaDoorChecked
import GoSem.Claim
import GoSem.ClaimJoined
import GoSem.ClaimMapViews
import Derived.JoinedTies
import Derived.KernelRfl
namespace Go.Proofs.YtonpahhcfgdeoaaDoor
/- THE CELL 'sum', in the pinned program and in every row, IS THE sha256 OF THE DUMP (.gsa) THAT YtonpahhcfgdeoaaDoorProg.lean LOADS. Nothing in Lean hashes anything: it is a label: what it is worth is what the hold of that sum in a sandbox is worth. -/
noncomputable def Tryd.pinned : Pinned := { name := "ytonpahhcfgdeoaadoor", sum := "171c2e848cf6883a1b4d271e0132a633a2cc5767ae8f51095fe8162e94d5bfe5", checked := Tryd.checked }
namespace Rows
def none {H : Type} : Left H := { results := [], args := [] }

/- WHAT THE LISTED PACKAGE-LEVEL VARIABLES READ AS WHEN THE CALL BEGINS. Each datum BY PROGRAM (the guide's laid-datum.mjs) off the statement by which the dump's own 'gosem.cut.vars' lays the variable. In a bare row this is a premise. The card (YtonpahhcfgdeoaaDoorCards.lean) ties it to the program's text. -/
def laid_loop_example_catechist_impl_errEnds {H : Type} : DataW H := .iface "*errors.errorString" (.ptr (.agg [.lit (.string [116, 104, 101, 32, 98, 121, 116, 101, 115, 32, 101, 110, 100, 32, 116, 111, 111, 32, 115, 111, 111, 110])]))
def laid_loop_example_catechist_impl_errGoesOn {H : Type} : DataW H := .iface "*errors.errorString" (.ptr (.agg [.lit (.string [116, 104, 101, 32, 98, 121, 116, 101, 115, 32, 103, 111, 32, 111, 110])]))
def laid_loop_example_catechist_impl_errTerm {H : Type} : DataW H := .iface "*errors.errorString" (.ptr (.agg [.lit (.string [116, 104, 101, 32, 112, 108, 97, 99, 101, 115, 32, 97, 114, 101, 32, 110, 111, 32, 116, 101, 114, 109])]))
def laid_loop_example_catechist_impl_errLength {H : Type} : DataW H := .iface "*errors.errorString" (.ptr (.agg [.lit (.string [116, 104, 101, 32, 102, 114, 97, 109, 101, 32, 104, 97, 115, 32, 97, 110, 111, 116, 104, 101, 114, 32, 108, 101, 110, 103, 116, 104])]))
def laid_loop_example_catechist_impl_errSum {H : Type} : DataW H := .iface "*errors.errorString" (.ptr (.agg [.lit (.string [116, 104, 101, 32, 102, 114, 97, 109, 101, 32, 104, 97, 115, 32, 97, 110, 111, 116, 104, 101, 114, 32, 115, 117, 109])]))

/-- 'laws.FnExactMsgRead': WHATEVER THE INPUT: true; the input reads as it did. -/
def fnExactMsgReadSpec : ChangeSpec := { name := "fnExactMsgRead", vars := ["loop.example/catechist/impl.errLength", "loop.example/catechist/impl.errEnds", "loop.example/catechist/impl.errTerm", "loop.example/catechist/impl.errSum", "loop.example/catechist/impl.errGoesOn"], fn := fun _ => fun
  | [d, g1, g2, g3, g4, g5] => { results := [.lit (.bool true)], args := [d], vars := [g1, g2, g3, g4, g5] }
  | _ => none }
def fnExactMsgReadRow : OpenClaim := { program := "ytonpahhcfgdeoaadoor", sum := "171c2e848cf6883a1b4d271e0132a633a2cc5767ae8f51095fe8162e94d5bfe5", func := "loop.example/catechist/laws.FnExactMsgRead", spec := "fnExactMsgRead", unfollowed := true, recurses := true, named := ["loop.example/catechist/impl.errLength", "loop.example/catechist/impl.errEnds", "loop.example/catechist/impl.errTerm", "loop.example/catechist/impl.errSum", "loop.example/catechist/impl.errGoesOn"], ifaces := true, apart := false, laid := [("loop.example/catechist/impl.errEnds", laid_loop_example_catechist_impl_errEnds), ("loop.example/catechist/impl.errGoesOn", laid_loop_example_catechist_impl_errGoesOn), ("loop.example/catechist/impl.errTerm", laid_loop_example_catechist_impl_errTerm), ("loop.example/catechist/impl.errLength", laid_loop_example_catechist_impl_errLength), ("loop.example/catechist/impl.errSum", laid_loop_example_catechist_impl_errSum)] }
def FnExactMsgReadSaid : Prop := fnExactMsgReadRow.holds Tryd.pinned (OpenSpec.ofChange fnExactMsgReadSpec)

/-- ITS FALSE NEIGHBOUR: 'it returns false'. Refute it at one input. -/
def fnExactMsgReadWrong : ChangeSpec := { name := "fnExactMsgRead", vars := ["loop.example/catechist/impl.errLength", "loop.example/catechist/impl.errEnds", "loop.example/catechist/impl.errTerm", "loop.example/catechist/impl.errSum", "loop.example/catechist/impl.errGoesOn"], fn := fun _ => fun
  | [d, g1, g2, g3, g4, g5] => { results := [.lit (.bool false)], args := [d], vars := [g1, g2, g3, g4, g5] }
  | _ => none }
def FnExactMsgReadWrongFalsely : Prop := fnExactMsgReadRow.holds Tryd.pinned (OpenSpec.ofChange fnExactMsgReadWrong)

/- THE SECOND FORM. 'bulk': how many values and letters a reading holds, each counted each time it is reached (what is shared counts as often as it is met; a slice's spare places count too). A statement '..UptoSaid' is the law's where the arguments, and the package variables that the reading takes, are together of bulk at most 1048576: NARROWER than '..Said'. Prove '..Said' where nothing that the law and all that it calls make is longer than what came in: it says more and counts as full. Else prove '..UptoSaid'. A law counts once. -/
mutual
def uptoBulk {H : Type} : DataW H → Nat
  | .lit (.string bytes) => bytes.length + 1
  | .lit _ => 1
  | .nil => 1
  | .ptr d => uptoBulk d + 1
  | .slice elems spare => uptoBulkAll elems + uptoBulkAll spare + 1
  | .agg parts => uptoBulkAll parts + 1
  | .iface _ d => uptoBulk d + 1
  | .map entries => uptoBulkEntries entries + 1
  | .held _ => 1
def uptoBulkAll {H : Type} : List (DataW H) → Nat
  | [] => 0
  | d :: r => uptoBulk d + uptoBulkAll r
def uptoBulkEntries {H : Type} : List (Lit × DataW H) → Nat
  | [] => 0
  | x :: r => uptoBulkEntry x + uptoBulkEntries r
def uptoBulkEntry {H : Type} : Lit × DataW H → Nat
  | (.string bytes, d) => bytes.length + uptoBulk d + 1
  | (_, d) => uptoBulk d + 1
 end
def uptoSmall : (H : Type) → List (DataW H) → Bool := fun _ ds => decide (uptoBulkAll ds ≤ 1048576)
def OpenSpec.upto (s : _root_.Go.ChangeSpec) : _root_.Go.OpenSpec := { _root_.Go.OpenSpec.ofChange s with cond := some uptoSmall }

/-- 'laws.FnExactMsgRead', WHERE WHAT IT READS IS OF BULK AT MOST 1048576: true; the input reads as it did. -/
def fnExactMsgReadUptoRow : OpenClaim := { program := "ytonpahhcfgdeoaadoor", sum := "171c2e848cf6883a1b4d271e0132a633a2cc5767ae8f51095fe8162e94d5bfe5", func := "loop.example/catechist/laws.FnExactMsgRead", spec := "fnExactMsgRead", unfollowed := true, recurses := true, named := ["loop.example/catechist/impl.errLength", "loop.example/catechist/impl.errEnds", "loop.example/catechist/impl.errTerm", "loop.example/catechist/impl.errSum", "loop.example/catechist/impl.errGoesOn"], ifaces := true, apart := false, laid := [("loop.example/catechist/impl.errEnds", laid_loop_example_catechist_impl_errEnds), ("loop.example/catechist/impl.errGoesOn", laid_loop_example_catechist_impl_errGoesOn), ("loop.example/catechist/impl.errTerm", laid_loop_example_catechist_impl_errTerm), ("loop.example/catechist/impl.errLength", laid_loop_example_catechist_impl_errLength), ("loop.example/catechist/impl.errSum", laid_loop_example_catechist_impl_errSum)], narrowed := true }
def FnExactMsgReadUptoSaid : Prop := fnExactMsgReadUptoRow.holds Tryd.pinned (OpenSpec.upto fnExactMsgReadSpec)

end Rows
end Go.Proofs.YtonpahhcfgdeoaaDoor
