/- The walks of eqByteS, caBytes, markByteS, heldByteS, toByteS. -/
import Derived.Test.YtoanmnmodlocgaaDoorW9
import Derived.Test.YtoanmnmodlocgaaDoorYM
import Derived.OwnWalk
namespace Go.Proofs.YtoanmnmodlocgaaDoor
open Go.RowKit
set_option linter.unusedVariables false
set_option linter.unusedSimpArgs false

/-- What markByteS writes. -/
def marksY (n : Nat) (k : Int) : List Int := (List.range n).map fun i : Nat => (k + (i : Int)) % 256

theorem marksY_length (n : Nat) (k : Int) : (marksY n k).length = n := by simp [marksY]
theorem marksY_get {n i : Nat} {k : Int} (h : i < (marksY n k).length) : (marksY n k)[i] = (k + i) % 256 := by simp [marksY]

theorem setY_take (xs : List Value) (j : Nat) (k : Int) (h : j < xs.length) (hx : xs.take j = bys (marksY j k)) : (xs.set j (.int .u8 ((k + j) % 256))).take (j + 1) = bys (marksY (j + 1) k) := by
  rw [List.take_succ_eq_append_getElem (by simpa using h), List.take_set_of_le (by omega), hx]
  simp [bys, marksY, List.range_succ]

theorem Tryd.infoByte : (Tryd.prog.info? 5).map (fun i => (i.zero, i.size, i.bytes)) = some (some (.int .u8 0), 1, 1) := by kernel_rfl

theorem toY_round {w wr : World} {g n k : Nat} {xs : List Value} {z : List Int} {x : Int} (hk : k < z.length) (hc : x = z[k]) (hn : n = z.length)
    (hown : wr.ownsRow w.heap.size 5 1 (.slice (some ⟨g, 0, none⟩) n n) n xs) (hx : xs.take k = bys (z.take k)) (hB : Below w.heap.size w wr) :
    ∃ xs', (wr.setCell ⟨g, k, none⟩ (.int .u8 x)).ownsRow w.heap.size 5 1 (.slice (some ⟨g, 0, none⟩) n n) n xs' ∧ xs'.take (k + 1) = bys (z.take (k + 1)) ∧ Below w.heap.size w (wr.setCell ⟨g, k, none⟩ (.int .u8 x)) := by
  have hgb : w.heap.size ≤ g ∧ g < wr.heap.size := hown.lt g rfl
  have hl : xs.length = n * 1 := hown.1
  refine ⟨_, (hown.stored k (.int .u8 x)).1, ?_, hB.setCell (p := ⟨g, _, none⟩) hgb.1 _⟩
  rw [List.take_succ_eq_append_getElem (by simp; omega), List.take_set_of_le (by omega), hx, List.take_succ_eq_append_getElem hk, bys_app, ← hc]
  simp [bys]

end Go.Proofs.YtoanmnmodlocgaaDoor
