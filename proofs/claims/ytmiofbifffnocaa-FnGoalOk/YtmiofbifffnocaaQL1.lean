/- caOk; the walk of the law FnTrmWhole. -/
import Derived.Test.YtmiofbifffnocaaQD6
import Derived.Test.YtmiofbifffnocaaQPlain2T4
import Derived.Test.YtmiofbifffnocaaQW6W7W18
namespace Go.Proofs.Ytmiofbifffnocaa
open Go.RowKit
set_option linter.unusedVariables false
set_option linter.unusedSimpArgs false

theorem fit_one : Fit [⟨2, 1, ByteArray.mk #[]⟩] := fun c hc => by simp at hc; subst hc; decide

set_option maxHeartbeats 400000 in
theorem caOk_any (w : World) : Calls Try.prog 15 #[] w fun e w' => e = .returned (.bool true) ∧ Below w.heap.size w w' := by
  have hA : At (w.alloc (.cells #[.int .i64 2, .int .i64 1, .string (ByteArray.mk #[])] 34)) w.heap.size 0 [⟨2, 1, ByteArray.mk #[]⟩] := fun i hi => by
    have h0 : i = 0 := by simp at hi; omega
    subst h0
    simp [go_sem]
  have h1 := TrmOk_some w.heap.size 0 1 [⟨2, 1, ByteArray.mk #[]⟩] _ (by simp [maxLen]) hA fit_one
  rw [trm_one] at h1
  have H := hide h1
  clear h1 hA
  go_enter Try.func15, Try.ntmps15
  go_wp2_with fail
  refine (unhide H).mono ?_
  rintro e w1 ⟨rfl, hb1⟩
  go_wp2
  go_ret
  exact ⟨rfl, bstep (cell_below _ _) hb1⟩

end Go.Proofs.Ytmiofbifffnocaa
