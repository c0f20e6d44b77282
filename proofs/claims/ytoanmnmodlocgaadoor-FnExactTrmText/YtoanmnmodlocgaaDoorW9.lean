/- The walks of eqIntS, caInts, markIntS, heldIntS. -/
import Derived.Test.YtoanmnmodlocgaaDoorW1
import Derived.Test.YtoanmnmodlocgaaDoorMem3
import Derived.Deep.QuietTactic
import Derived.BigQuiet
import Derived.WalkSmall
namespace Go.Proofs.YtoanmnmodlocgaaDoor
open Go.RowKit
set_option linter.unusedVariables false
set_option linter.unusedSimpArgs false

theorem decide_eq_no {z y : List Int} (h : z ≠ y) : decide (z = y) = false := by simpa using h
theorem decide_eq_yes {z y : List Int} (h : z = y) : decide (z = y) = true := by simpa using h

/-- What markIntS writes. -/
def marksI (n : Nat) (k : Int) : List Int := (List.range n).map fun i : Nat => k + (i : Int)

theorem marksI_length (n : Nat) (k : Int) : (marksI n k).length = n := by simp [marksI]
theorem marksI_get {n i : Nat} {k : Int} (h : i < (marksI n k).length) : (marksI n k)[i] = k + i := by simp [marksI]

theorem setI_take (xs : List Value) (j : Nat) (k : Int) (h : j < xs.length) (hx : xs.take j = nums (marksI j k)) : (xs.set j (.int .i64 (k + j))).take (j + 1) = nums (marksI (j + 1) k) := by
  rw [List.take_succ_eq_append_getElem (by simpa using h), List.take_set_of_le (by omega), hx]
  simp [nums, marksI, List.range_succ]

theorem grown_refl (w : World) (row : Option Nat) : w.grownBy w row := ⟨rfl, rfl, rfl, Nat.le_refl _, fun _ _ _ => rfl⟩
theorem grown_trans {a b c : World} {row : Option Nat} (h : a.grownBy b row) (k : b.grownBy c row) : a.grownBy c row :=
  ⟨k.os.trans h.os, k.tape.trans h.tape, k.output.trans h.output, Nat.le_trans h.size k.size, fun i hi hn => (k.block i (Nat.lt_of_lt_of_le hi h.size) hn).trans (h.block i hi hn)⟩
theorem grown_below {a b : World} {row : Option Nat} (h : Below a.heap.size a b) : a.grownBy b row := ⟨h.os, h.tape, h.output, h.size, fun i hi _ => h.block i hi⟩

end Go.Proofs.YtoanmnmodlocgaaDoor
