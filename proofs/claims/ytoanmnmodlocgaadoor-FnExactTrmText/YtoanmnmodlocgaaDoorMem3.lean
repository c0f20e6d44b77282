/- Rows of numbers in memory; what is owned, and where it lies. -/
import Derived.Test.YtoanmnmodlocgaaDoorMem2
namespace Go.Proofs.YtoanmnmodlocgaaDoor
open Go.RowKit
set_option linter.unusedVariables false
set_option linter.unusedSimpArgs false

def AtI (w : World) (b off : Nat) (z : List Int) : Prop := ∀ i, (h : i < z.length) → w.cell? ⟨b, off + i, none⟩ = some (.int .i64 z[i])
def RowI (w : World) (ao : Option Addr) (z : List Int) : Prop := z = [] ∨ ∃ b off, ao = some ⟨b, off, none⟩ ∧ AtI w b off z

theorem AtI.below {w w' : World} {b off : Nat} {z : List Int} (h : AtI w b off z) (hb : Below w.heap.size w w') : AtI w' b off z := fun i hi =>
  (hb.cell (p := ⟨b, off + i, none⟩) (World.block_lt_of_cell? w ⟨b, _, none⟩ (h i hi))).trans (h i hi)
theorem RowI.below {w w' : World} {ao : Option Addr} {z : List Int} (h : RowI w ao z) (hb : Below w.heap.size w w') : RowI w' ao z := by
  rcases h with h | ⟨b, off, e, h⟩
  · exact .inl h
  · exact .inr ⟨b, off, e, h.below hb⟩

/-- The numbers as they lie. -/
def nums (z : List Int) : List Value := z.map (Value.int .i64)
theorem nums_length (z : List Int) : (nums z).length = z.length := by simp [nums]
theorem nums_get (z : List Int) (i : Nat) (h : i < z.length) : (nums z)[i]? = some (.int .i64 z[i]) := by simp [nums, h]

/-- A slice value v owns the places t. -/
def OwnC (w : World) (base : Nat) (v : Value) (t : List C) : Prop := w.ownsRow base 34 3 v t.length (flat t)
/-- A slice value v owns the numbers z. -/
def OwnI (w : World) (base : Nat) (v : Value) (z : List Int) : Prop := w.ownsRow base 3 1 v z.length (nums z)

theorem OwnC.shape {w : World} {base : Nat} {v : Value} {t : List C} (h : OwnC w base v t) : ∃ ao cap, v = .slice ao t.length cap ∧ Row w ao t := by
  have h' := h
  rcases h.2 with ⟨e, hn⟩ | ⟨g, cap, cur, e, _⟩
  · refine ⟨none, 0, ?_, .inl (List.length_eq_zero_iff.1 hn)⟩
    rw [e, hn]
  · subst e
    exact ⟨_, _, rfl, .inr ⟨g, 0, rfl, owns_at h' rfl⟩⟩

theorem ownsI_at {w : World} {base e g cap n : Nat} {z : List Int} (h : w.ownsRow base e 1 (.slice (some ⟨g, 0, none⟩) n cap) n (nums z)) (hn : n = z.length) : AtI w g 0 z := fun i hi => by
  have e0 := h.cellAt i (by omega)
  rw [Nat.zero_add]
  exact e0.trans (nums_get z i hi)

theorem OwnI.shape {w : World} {base : Nat} {v : Value} {z : List Int} (h : OwnI w base v z) : ∃ ao cap, v = .slice ao z.length cap ∧ RowI w ao z := by
  have h' := h
  rcases h.2 with ⟨e, hn⟩ | ⟨g, cap, cur, e, _⟩
  · refine ⟨none, 0, ?_, .inl (List.length_eq_zero_iff.1 hn)⟩
    rw [e, hn]
  · subst e
    exact ⟨_, _, rfl, .inr ⟨g, 0, rfl, ownsI_at h' rfl⟩⟩

theorem own_below {w w1 : World} {base e size n : Nat} {v : Value} {xs : List Value} (h : w.ownsRow base e size v n xs) (hb : Below w.heap.size w w1) : w1.ownsRow base e size v n xs := by
  refine h.kept (row := none) ⟨hb.os, hb.tape, hb.output, hb.size, fun j hj _ => hb.block j hj⟩ ?_
  cases v.ownBlock with
  | none => exact .inl rfl
  | some k => exact .inr (by simp)
theorem OwnC.below {w w1 : World} {base : Nat} {v : Value} {t : List C} (h : OwnC w base v t) (hb : Below w.heap.size w w1) : OwnC w1 base v t := own_below h hb
theorem OwnI.below {w w1 : World} {base : Nat} {v : Value} {z : List Int} (h : OwnI w base v z) (hb : Below w.heap.size w w1) : OwnI w1 base v z := own_below h hb

/-- What lies in another block is as it was. -/
theorem own_apart {w w1 : World} {base e size n : Nat} {v : Value} {xs : List Value} {row : Option Nat} (h : w.ownsRow base e size v n xs) (hg : w.grownBy w1 row) (hr : ∀ k, row = some k → k < base ∨ w.heap.size ≤ k) : w1.ownsRow base e size v n xs := by
  refine h.kept hg ?_
  cases hv : v.ownBlock with
  | none => exact .inl rfl
  | some k =>
    right
    intro e
    have := h.lt k hv
    have := hr k e.symm
    omega

theorem Row.apart {w w1 : World} {ao : Option Addr} {t : List C} {row : Option Nat} (h : Row w ao t) (hg : w.grownBy w1 row) (hr : ∀ a, ao = some a → some a.block ≠ row) : Row w1 ao t := by
  rcases h with h | ⟨b, off, e, h⟩
  · exact .inl h
  · refine .inr ⟨b, off, e, fun i hi => ?_⟩
    have hb : b < w.heap.size := World.block_lt_of_cell? w ⟨b, _, none⟩ (h i hi).1
    exact (h.kept (hg.block b hb (hr _ e))) i hi
end Go.Proofs.YtoanmnmodlocgaaDoor
