import Derived.Test.YthelpghiafbejaaDoorQMem2Mem3W9
import Derived.OwnWalk
import Derived.Maps.AppendAt
import Derived.RangeFuncBox
import Derived.Test.YthelpghiafbejaaDoorQMemOpenOpen2
import Derived.Maps.Own
import Derived.Maps.OwnOps
import Derived.Maps.OwnSet
/- Which variables places have: the plain list; the walks of the model's l1Has and TrmFree. -/
namespace Go.Proofs.YthelpghiafbejaaDoor
open Go.RowKit
set_option linter.unusedVariables false
set_option linter.unusedSimpArgs false

/-- The variables so far, and one place more. -/
def addV (acc : List Int) (c : C) : List Int := if c.k = 1 then (if c.n ∈ acc then acc else acc ++ [c.n]) else acc
/-- The variables of places, as they come first. -/
def freeOf (t : List C) : List Int := t.foldl addV []

theorem freeOf_step {t : List C} {k : Nat} (h : k < t.length) : freeOf (t.take (k + 1)) = addV (freeOf (t.take k)) t[k] := by
  rw [List.take_succ_eq_append_getElem h]; unfold freeOf; rw [List.foldl_append]; rfl

theorem addV_len (acc : List Int) (c : C) : (addV acc c).length ≤ acc.length + 1 := by
  unfold addV
  split
  · split
    · omega
    · simp
  · omega

theorem fold_len : ∀ (t : List C) (acc : List Int), (t.foldl addV acc).length ≤ acc.length + t.length
  | [], acc => by simp
  | c :: t, acc => by
      have h1 := fold_len t (addV acc c)
      have h2 := addV_len acc c
      simp only [List.foldl_cons, List.length_cons]
      omega
theorem freeOf_len (t : List C) : (freeOf t).length ≤ t.length := by
  have := fold_len t []
  simpa [freeOf] using this

theorem addV_other {acc : List Int} {c : C} (h : c.k ≠ 1) : addV acc c = acc := by simp [addV, h]
theorem addV_old {acc : List Int} {c : C} (h : c.n ∈ acc) : addV acc c = acc := by simp [addV, h]
theorem addV_new {acc : List Int} {c : C} (h : c.k = 1) (hn : c.n ∉ acc) : addV acc c = acc ++ [c.n] := by simp [addV, h, hn]

theorem Tryd.infoInt : (Tryd.prog.info? 3).map (fun i => (i.zero, i.size, i.bytes)) = some (some (.int .i64 0), 1, 8) := by kernel_rfl

/-- What an append of one number leaves. -/
theorem app_int {w wr w1 : World} {v v' : Value} {z : List Int} {x : Int} (hB : Below w.heap.size w wr) (hown : wr.ownsRow w.heap.size 3 1 v z.length (nums z))
    (hown' : w1.ownsRow w.heap.size 3 1 v' (z.length + 1) (nums z ++ [.int .i64 x])) (hgrow : (wr.alloc (.cells #[.int .i64 x] 3)).grownBy w1 v.ownBlock) :
    OwnI w1 w.heap.size v' (z ++ [x]) ∧ Below w.heap.size w w1 := by
  constructor
  · unfold OwnI
    rw [show (z ++ [x]).length = z.length + 1 by simp, show nums (z ++ [x]) = nums z ++ [.int .i64 x] by simp [nums]]
    exact hown'
  · exact (hB.alloc hB.size _).grown hgrow (by have := hB.size; simp; omega) (fun k e => (hown.lt k e).1)

end Go.Proofs.YthelpghiafbejaaDoor

/- The walk of the program's numberVars (a list and a map) and of TrmFree. -/
namespace Go.Proofs.YthelpghiafbejaaDoor
open Go.RowKit Go.Maps
set_option linter.unusedVariables false
set_option linter.unusedSimpArgs false

/-- The map says of each of these numbers at which place it stands, and of no other. -/
def Tab (z : List Int) (D : DataW Unit) : Prop :=
  Maps.IsMap D ∧ (∀ x : Int, Maps.has D (.int .i64 x) = decide (x ∈ z)) ∧ ∀ i, (h : i < z.length) → ∀ d, D.atKey (.int .i64 z[i]) d = .lit (.int .i64 (i : Int))

theorem tab_nil : Tab [] (.map [] : DataW Unit) := ⟨Maps.isMap_empty, fun x => by simp [Maps.has], fun i h => absurd h (Nat.not_lt_zero _)⟩

theorem tab_put {z : List Int} {D : DataW Unit} {x : Int} (h : Tab z D) (hx : x ∉ z) : Tab (z ++ [x]) (D.put (.int .i64 x) (.lit (.int .i64 (z.length : Int)))) := by
  refine ⟨h.1.put _ _, fun y => ?_, fun i hi d => ?_⟩
  · by_cases e : y = x
    · subst e
      rw [Maps.has_put_same h.1 (show WideAt.IsKeyLit (Lit.int .i64 y) from trivial)]; simp
    · rw [Maps.has_put_other (by intro h'; apply e; simpa using h'), h.2.1 y]
      simp [e]
  · by_cases hl : i < z.length
    · have hg : (z ++ [x])[i] = z[i] := List.getElem_append_left hl
      have hne : z[i] ≠ x := fun e => hx (by rw [← e]; exact List.getElem_mem hl)
      rw [hg, Maps.atKey_put_other (by intro h'; apply hne; simpa using h'), h.2.2 i hl]
    · have hi' : i = z.length := by simp at hi; omega
      subst hi'
      have hg : (z ++ [x])[z.length]'hi = x := by simp
      rw [hg, Maps.atKey_put_same h.1 (show WideAt.IsKeyLit (Lit.int .i64 x) from trivial)]

theorem zeroInt (w : World) : (zeroValue 3).run Tryd.prog w = .ok (.int .i64 0) w := by kernel_rfl

theorem addV_nodup {acc : List Int} {c : C} (h : acc.Nodup) : (addV acc c).Nodup := by
  unfold addV
  split
  · split
    · exact h
    · rename_i hn
      rw [List.nodup_append]
      refine ⟨h, by simp, fun a ha b hb => ?_⟩
      simp at hb
      subst hb
      intro e
      subst e
      exact hn ha
  · exact h
theorem fold_nodup : ∀ (t : List C) (acc : List Int), acc.Nodup → (t.foldl addV acc).Nodup
  | [], acc, h => h
  | c :: t, acc, h => fold_nodup t _ (addV_nodup h)
theorem freeOf_nodup (t : List C) : (freeOf t).Nodup := fold_nodup t [] List.nodup_nil

end Go.Proofs.YthelpghiafbejaaDoor
