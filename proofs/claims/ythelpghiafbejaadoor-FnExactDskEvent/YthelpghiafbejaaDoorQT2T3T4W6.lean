import Derived.Deep.AppendLies
import Derived.Test.YthelpghiafbejaaDoorQTX5T1
import Derived.Test.YthelpghiafbejaaDoorQW15
import Derived.Test.YthelpghiafbejaaDoorQPlain4
import Derived.Deep.RegionLaw
import Derived.BigRegion
import Derived.Test.YthelpghiafbejaaDoorQYB2W2
import Derived.Test.YthelpghiafbejaaDoorQPlain2YB3
import Derived.Test.YthelpghiafbejaaDoorQW3W4
import Derived.Test.YthelpghiafbejaaDoorQW5
/- The walk of list: the places of a tree in new memory. -/
namespace Go.Proofs.YthelpghiafbejaaDoor
open Go.RowKit Go.Shelf
set_option linter.unusedVariables false
set_option linter.unusedSimpArgs false
attribute [local go_sem] Oper.semAt_some
attribute [-go_sem] Go.Builtin.append_

/-- At a node's block lies that place. -/
def Held (n₀ : Nat) (w : World) (x : Nat × C) : Prop := x.1 < n₀ ∧ w.cell? ⟨x.1, 0, none⟩ = some (.int .i64 x.2.k) ∧ w.cell? ⟨x.1, 1, none⟩ = some (.int .i64 x.2.n) ∧ w.cell? ⟨x.1, 2, none⟩ = some (.string x.2.s)

theorem Held.below {n₀ : Nat} {w w' : World} {x : Nat × C} (h : Held n₀ w x) (hb : Below n₀ w w') : Held n₀ w' x :=
  ⟨h.1, (hb.cell (p := ⟨x.1, 0, none⟩) h.1).trans h.2.1, (hb.cell (p := ⟨x.1, 1, none⟩) h.1).trans h.2.2.1, (hb.cell (p := ⟨x.1, 2, none⟩) h.1).trans h.2.2.2⟩

theorem lift_sub {α : Type} {P : α → Prop} : ∀ (z : List α), (∀ x ∈ z, P x) → ∃ xs : List {x : α // P x}, xs.map (·.1) = z
  | [], _ => ⟨[], rfl⟩
  | x :: z, h => by
      obtain ⟨xs, e⟩ := lift_sub z (fun y hy => h y (by simp [hy]))
      exact ⟨⟨x, h x (by simp)⟩ :: xs, by simp [e]⟩

/-- What list is of places. -/
def listed (t : List C) : List C := if trm t then t else []

end Go.Proofs.YthelpghiafbejaaDoor

/- The walk of firstTree. -/
namespace Go.Proofs.YthelpghiafbejaaDoor
open Go.RowKit Go.Shelf
set_option linter.unusedVariables false
set_option linter.unusedSimpArgs false

/-- A slice that leads to places that lie below n₀. -/
def Sl (n₀ : Nat) (w : World) (v : Value) (t : List C) : Prop := ∃ ao cap, v = .slice ao t.length cap ∧ t.length ≤ cap ∧ cap ≤ maxLen ∧ (t = [] ∨ ∃ b off, ao = some ⟨b, off, none⟩ ∧ b < n₀ ∧ At w b off t)

theorem Sl.below {n₀ : Nat} {w w' : World} {v : Value} {t : List C} (h : Sl n₀ w v t) (hb : Below n₀ w w') : Sl n₀ w' v t := by
  obtain ⟨ao, cap, e, h1, h2, h3⟩ := h
  exact ⟨ao, cap, e, h1, h2, h3.imp_right fun ⟨b, off, e, hl, hA⟩ => ⟨b, off, e, hl, hA.kept (hb.block b hl)⟩⟩

/-- Blocks that a call has made, but for one and for a slice's own. -/
def Fr (lo hi P : Nat) (v : Value) (b : Nat) : Prop := lo ≤ b ∧ b < hi ∧ b ≠ P ∧ some b ≠ v.ownBlock

theorem grownBy_setc (W : World) (a : Addr) (v : Value) : W.grownBy (W.setCell a v) (some a.block) :=
  ⟨rfl, rfl, rfl, (KeepsWalks.setCell W _ v).size, fun k _ hk => Below.heap_setCell _ _ _ k (fun e => hk (by rw [e]))⟩

theorem own_lt {w : World} {base e size n : Nat} {v : Value} {xs : List Value} (h : w.ownsRow base e size v n xs) {g : Nat} (hg : v.ownBlock = some g) : g < w.heap.size := by
  rcases h.2 with ⟨rfl, _⟩ | ⟨g', cap, cur, rfl, _, hgb, _⟩
  · simp [Value.ownBlock] at hg
  · obtain rfl : g' = g := by simpa [Value.ownBlock] using hg
    exact (Array.getElem?_eq_some_iff.1 hgb).1

end Go.Proofs.YthelpghiafbejaaDoor

/- The walks of firstTree and treeOf. -/
namespace Go.Proofs.YthelpghiafbejaaDoor
open Go.RowKit Go.Shelf
set_option linter.unusedVariables false
set_option linter.unusedSimpArgs false

end Go.Proofs.YthelpghiafbejaaDoor

/- eqTrmCellS of whatever places; the walk of the law FnExactTrmOk. -/
namespace Go.Proofs.YthelpghiafbejaaDoor
open Go.RowKit
set_option linter.unusedVariables false
set_option linter.unusedSimpArgs false

theorem row_of_own {w : World} {base e g cap : Nat} {t : List C} (h : w.ownsRow base e 3 (.slice (some ⟨g, 0, none⟩) t.length cap) t.length (flat t)) : Row w (some ⟨g, 0, none⟩) t :=
  .inr ⟨g, 0, rfl, owns_at h rfl⟩

end Go.Proofs.YthelpghiafbejaaDoor
