/- Which variables places have: the plain list; the walks of the model's l1Has and TrmFree. -/
import Derived.Test.YtoanmnmodlocgaaDoorW9
import Derived.OwnWalk
import Derived.Maps.AppendAt
import Derived.RangeFuncBox
namespace Go.Proofs.YtoanmnmodlocgaaDoor
open Go.RowKit
set_option linter.unusedVariables false
set_option linter.unusedSimpArgs false

/-- The variables so far, and one place more. -/
def addV (acc : List Int) (c : C) : List Int := if c.k = 1 then (if c.n ∈ acc then acc else acc ++ [c.n]) else acc
/-- The variables of places, as they come first. -/
def freeOf (t : List C) : List Int := t.foldl addV []

theorem freeOf_step {t : List C} {k : Nat} (h : k < t.length) : freeOf (t.take (k + 1)) = addV (freeOf (t.take k)) t[k] := by
  rw [List.take_succ_eq_append_getElem h]; unfold freeOf; rw [List.foldl_append]; rfl

theorem addV_len (acc : List Int) (c : C) : (addV acc c).length ≤ acc.length + 1 := by
  unfold addV
  split
  · split
    · omega
    · simp
  · omega

theorem fold_len : ∀ (t : List C) (acc : List Int), (t.foldl addV acc).length ≤ acc.length + t.length
  | [], acc => by simp
  | c :: t, acc => by
      have h1 := fold_len t (addV acc c)
      have h2 := addV_len acc c
      simp only [List.foldl_cons, List.length_cons]
      omega
theorem freeOf_len (t : List C) : (freeOf t).length ≤ t.length := by
  have := fold_len t []
  simpa [freeOf] using this

theorem addV_other {acc : List Int} {c : C} (h : c.k ≠ 1) : addV acc c = acc := by simp [addV, h]
theorem addV_old {acc : List Int} {c : C} (h : c.n ∈ acc) : addV acc c = acc := by simp [addV, h]
theorem addV_new {acc : List Int} {c : C} (h : c.k = 1) (hn : c.n ∉ acc) : addV acc c = acc ++ [c.n] := by simp [addV, h, hn]

theorem Tryd.infoInt : (Tryd.prog.info? 3).map (fun i => (i.zero, i.size, i.bytes)) = some (some (.int .i64 0), 1, 8) := by kernel_rfl

/-- What an append of one number leaves. -/
theorem app_int {w wr w1 : World} {v v' : Value} {z : List Int} {x : Int} (hB : Below w.heap.size w wr) (hown : wr.ownsRow w.heap.size 3 1 v z.length (nums z))
    (hown' : w1.ownsRow w.heap.size 3 1 v' (z.length + 1) (nums z ++ [.int .i64 x])) (hgrow : (wr.alloc (.cells #[.int .i64 x] 3)).grownBy w1 v.ownBlock) :
    OwnI w1 w.heap.size v' (z ++ [x]) ∧ Below w.heap.size w w1 := by
  constructor
  · unfold OwnI
    rw [show (z ++ [x]).length = z.length + 1 by simp, show nums (z ++ [x]) = nums z ++ [.int .i64 x] by simp [nums]]
    exact hown'
  · exact (hB.alloc hB.size _).grown hgrow (by have := hB.size; simp; omega) (fun k e => (hown.lt k e).1)

end Go.Proofs.YtoanmnmodlocgaaDoor
