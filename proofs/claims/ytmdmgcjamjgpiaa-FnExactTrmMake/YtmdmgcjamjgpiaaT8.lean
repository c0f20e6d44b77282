/- The walk of the model's TrmShift. -/
import Derived.Test.YtmdmgcjamjgpiaaT7
import Derived.Test.YtmdmgcjamjgpiaaW15
namespace Go.Proofs.Ytmdmgcjamjgpiaa
open Go.RowKit
set_option linter.unusedVariables false
set_option linter.unusedSimpArgs false

theorem shift_step {t : List C} {k : Nat} (n : Int) (h : k < t.length) : (t.take (k + 1)).map (shiftC n) = (t.take k).map (shiftC n) ++ [shiftC n t[k]] := by
  rw [List.take_succ_eq_append_getElem h, List.map_append]; rfl

theorem shiftC_var {n : Int} {c : C} (h : c.k = 1) : shiftC n c = ⟨c.k, c.n + n, c.s⟩ := by simp [shiftC, h]
theorem shiftC_other {n : Int} {c : C} (h : c.k ≠ 1) : shiftC n c = c := by simp [shiftC, h]

theorem made_nil {w w1 : World} (hb1 : Below w.heap.size w w1) : OwnC (w1.alloc (.cells #[] 46)) w.heap.size (.slice (some ⟨w1.heap.size, 0, none⟩) 0 0) [] :=
  OwnC.base (World.ownsRow_made w1 #[] 0 (Nat.le_refl _) (by simp [maxLen]) rfl) hb1.size

theorem fit_shift {t : List C} {n : Int} (h : Fit t) : Fit (t.map (shiftC n)) := fun c hc => by
  obtain ⟨c', hc', rfl⟩ := List.mem_map.1 hc
  have := h c' hc'
  unfold shiftC; split <;> exact this

end Go.Proofs.Ytmdmgcjamjgpiaa
