/- Places of terms in memory: a slice that holds them, and what keeps it. -/
import Derived.Test.YtoanmnmodlocgaaDoorPlain
import Derived.WalkKit
namespace Go.Proofs.YtoanmnmodlocgaaDoor
open Go.RowKit
set_option linter.unusedVariables false
set_option linter.unusedSimpArgs false

theorem hide {p : Prop} (h : p) : Hid p := h
theorem unhide {p : Prop} (h : Hid p) : p := h

/-- From cell 'off' of block b on lie the places t, three cells each. -/
def At (w : World) (b off : Nat) (t : List C) : Prop :=
  ∀ i, (h : i < t.length) → w.cell? ⟨b, off + i * 3, none⟩ = some (.int .i64 t[i].k) ∧ w.cell? ⟨b, off + i * 3 + 1, none⟩ = some (.int .i64 t[i].n) ∧ w.cell? ⟨b, off + i * 3 + 2, none⟩ = some (.string t[i].s)

/-- A slice's address leads to the places t. -/
def Row (w : World) (ao : Option Addr) (t : List C) : Prop := t = [] ∨ ∃ b off, ao = some ⟨b, off, none⟩ ∧ At w b off t

/-- All names are within the length that a text may have. -/
def Fit (t : List C) : Prop := ∀ c ∈ t, c.s.size ≤ maxLen

theorem Fit.get {t : List C} (h : Fit t) (i : Nat) (hi : i < t.length) : t[i].s.size ≤ maxLen := h _ (List.getElem_mem hi)

theorem At.kept {w w' : World} {b off : Nat} {t : List C} (h : At w b off t) (hb : w'.heap[b]? = w.heap[b]?) : At w' b off t := fun i hi =>
  ⟨(World.cell?_of_block (a := ⟨b, _, none⟩) hb).trans (h i hi).1, (World.cell?_of_block (a := ⟨b, _, none⟩) hb).trans (h i hi).2.1, (World.cell?_of_block (a := ⟨b, _, none⟩) hb).trans (h i hi).2.2⟩

theorem At.lt {w : World} {b off : Nat} {t : List C} (h : At w b off t) (hl : 0 < t.length) : b < w.heap.size :=
  World.block_lt_of_cell? w ⟨b, _, none⟩ (h 0 hl).1

theorem At.below {w w' : World} {b off : Nat} {t : List C} (h : At w b off t) (hb : Below w.heap.size w w') : At w' b off t := fun i hi =>
  (h.kept (hb.block b (h.lt (by omega)))) i hi

theorem Row.below {w w' : World} {ao : Option Addr} {t : List C} (h : Row w ao t) (hb : Below w.heap.size w w') : Row w' ao t := by
  rcases h with h | ⟨b, off, e, h⟩
  · exact .inl h
  · exact .inr ⟨b, off, e, h.below hb⟩

/-- One call behind another: what was there ahead of both is as it was. -/
theorem bstep {w w1 w2 : World} (h : Below w.heap.size w w1) (k : Below w1.heap.size w1 w2) : Below w.heap.size w w2 := h.trans (k.mono h.size)
end Go.Proofs.YtoanmnmodlocgaaDoor
