/- The walk of the program's numberVars (a list and a map) and of TrmFree. -/
import Derived.Test.YtoanmnmodlocgaaDoorW11
import Derived.Test.YtoanmnmodlocgaaDoorOpen
import Derived.Maps.Own
import Derived.Maps.OwnOps
import Derived.Maps.OwnSet
namespace Go.Proofs.YtoanmnmodlocgaaDoor
open Go.RowKit Go.Maps
set_option linter.unusedVariables false
set_option linter.unusedSimpArgs false

/-- The map says of each of these numbers at which place it stands, and of no other. -/
def Tab (z : List Int) (D : DataW Unit) : Prop :=
  Maps.IsMap D ∧ (∀ x : Int, Maps.has D (.int .i64 x) = decide (x ∈ z)) ∧ ∀ i, (h : i < z.length) → ∀ d, D.atKey (.int .i64 z[i]) d = .lit (.int .i64 (i : Int))

theorem tab_nil : Tab [] (.map [] : DataW Unit) := ⟨Maps.isMap_empty, fun x => by simp [Maps.has], fun i h => absurd h (Nat.not_lt_zero _)⟩

theorem tab_put {z : List Int} {D : DataW Unit} {x : Int} (h : Tab z D) (hx : x ∉ z) : Tab (z ++ [x]) (D.put (.int .i64 x) (.lit (.int .i64 (z.length : Int)))) := by
  refine ⟨h.1.put _ _, fun y => ?_, fun i hi d => ?_⟩
  · by_cases e : y = x
    · subst e
      rw [Maps.has_put_same h.1 (show WideAt.IsKeyLit (Lit.int .i64 y) from trivial)]; simp
    · rw [Maps.has_put_other (by intro h'; apply e; simpa using h'), h.2.1 y]
      simp [e]
  · by_cases hl : i < z.length
    · have hg : (z ++ [x])[i] = z[i] := List.getElem_append_left hl
      have hne : z[i] ≠ x := fun e => hx (by rw [← e]; exact List.getElem_mem hl)
      rw [hg, Maps.atKey_put_other (by intro h'; apply hne; simpa using h'), h.2.2 i hl]
    · have hi' : i = z.length := by simp at hi; omega
      subst hi'
      have hg : (z ++ [x])[z.length]'hi = x := by simp
      rw [hg, Maps.atKey_put_same h.1 (show WideAt.IsKeyLit (Lit.int .i64 x) from trivial)]

theorem zeroInt (w : World) : (zeroValue 3).run Tryd.prog w = .ok (.int .i64 0) w := by kernel_rfl

theorem addV_nodup {acc : List Int} {c : C} (h : acc.Nodup) : (addV acc c).Nodup := by
  unfold addV
  split
  · split
    · exact h
    · rename_i hn
      rw [List.nodup_append]
      refine ⟨h, by simp, fun a ha b hb => ?_⟩
      simp at hb
      subst hb
      intro e
      subst e
      exact hn ha
  · exact h
theorem fold_nodup : ∀ (t : List C) (acc : List Int), acc.Nodup → (t.foldl addV acc).Nodup
  | [], acc, h => h
  | c :: t, acc, h => fold_nodup t _ (addV_nodup h)
theorem freeOf_nodup (t : List C) : (freeOf t).Nodup := fold_nodup t [] List.nodup_nil

end Go.Proofs.YtoanmnmodlocgaaDoor
