/- At every argument GoalOk of the program answers as the specification, and writes into no argument (no condition). -/
import Derived.Test.YtmiofbifffnocaaQOpen
import Derived.Test.YtmiofbifffnocaaQOpen4
import Derived.Test.YtmiofbifffnocaaQGX1
import Derived.Test.YtmiofbifffnocaaQEnter
import Derived.ChangeOld
import Derived.Below
import Derived.ShutString
namespace Go.Proofs.Ytmiofbifffnocaa
open Go.ChangeShapes Go.WideShapes Go.ChangeAt Go.RowKit
open Go.ChangeMaps (open_string shut_string)
set_option linter.unusedVariables false

set_option maxRecDepth 100000 in
theorem fnExactGoalOk_lifted (os : Os) (started : os.Started) (H : Type) (enc : TypeId × Value → H) :
    ReturnsInHanded {} Try.checked os 6 .any (Rows.fnExactGoalOkSpec.pre6 enc Try.prog Try.f6 Rows.fnExactGoalOkRow.domain false) (Rows.fnExactGoalOkSpec.post enc Try.prog Try.f6 false true false false) := by
  refine returnsInHanded_of_change (C := Try.checked) own_knob started (by kernel_rfl) Try.func6
    (ChangeSpec.witness6 (enc := enc) (C := Try.checked) false ⟨#[], #[.agg #[.int .i64 0, .slice none 0 0, .slice none 0 0, .slice none 0 0]], []⟩ 8 (by kernel_rfl) (by kernel_rfl) (by kernel_rfl) (by kernel_rfl)) ?_
  intro W base args ds gs before hval0 hW hcnd _
  have hval : ∀ (j : Nat) t v, Try.f6.params[j]? = some t → args[j]? = some v → Value.okWide Try.prog W .any base t v := hval0
  have hW' := hW
  obtain ⟨p, q, hA0, hV, rfl, hfz, hnd⟩ := hW
  have hA : DataW.TrodAll enc Try.prog W 0 (fun _ => true) true Try.f6.params.toList args.toList ds p := hA0
  rw [Try.params6] at hA hval
  obtain ⟨v0, vs0, d0, ds0, p0, q0, hargs, rfl, rfl, h0, r0⟩ := trodAll_cons hA
  obtain ⟨rfl, rfl, rfl⟩ := trodAll_nil r0
  obtain rfl : args = #[v0] := by cases args; simp_all
  obtain ⟨rfl, rfl⟩ := trodVars_none hV
  have k0 := h0
  have lt0 : ∀ x ∈ p0, x.block < W.heap.size := by obtain ⟨m, hm⟩ := k0; exact DataW.trod_lt m _ _ _ hm
  obtain ⟨x0, xa0, ya0, za0, xc0, yc0, zc0, a0, b0, c0, rfl, ma0, mb0, mc0, ra0, rb0, rc0, fa0, fb0, fc0⟩ := open_goal (okWide_struct Try.underlying54 (hval 0 54 v0 rfl rfl)) h0
  clear hA0 hval0
  refine (FnExactGoalOk_walk x0 xa0 ya0 za0 xc0 yc0 zc0 a0 b0 c0 W ma0 mb0 mc0 ra0 rb0 rc0 fa0 fb0 fc0).mono fun e W' ⟨he, bel⟩ => ?_
  subst he
  exact ⟨_, rfl, _, _, _, [], _, [], hW', trodAll_mk1 (shut_bool Try.underlying4 _), (trodAll_cons_mk (Below.trod laid_out (by kernel_rfl) (of_decide_eq_true (by kernel_rfl)) k0 bel lt0) trodAll_mk0), rfl, bel.frame _, fun h => by cases h⟩

theorem fnExactGoalOk_over : Rows.fnExactGoalOkRow.holds Try.pinned (OpenSpec.ofChange Rows.fnExactGoalOkSpec) :=
  OpenClaim.holds_of_wide 6 Try.f6 rfl rfl rfl rfl rfl rfl rfl ⟨rfl, rfl, rfl, rfl, rfl⟩ rfl rfl rfl rfl rfl (by kernel_rfl) Try.func6 (joined_of (by kernel_rfl) rfl rfl)
    (of_decide_eq_true (by kernel_rfl)) (by unfold Func.isWrapper; first | (rw [if_pos (by decide +kernel)]; kernel_rfl) | (rw [if_neg (by decide +kernel)]; exact ⟨rfl, rfl⟩))
    (fun os started H enc _ => fnExactGoalOk_lifted os started H enc)

theorem fnExactGoalOk_holds : Rows.FnExactGoalOkSaid := fnExactGoalOk_over
#print axioms fnExactGoalOk_holds
end Go.Proofs.Ytmiofbifffnocaa
