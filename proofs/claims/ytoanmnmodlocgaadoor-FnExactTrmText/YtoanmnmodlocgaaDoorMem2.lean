/- A row of places that a call itself has made: from 'ownsRow' to places and back. -/
import Derived.Test.YtoanmnmodlocgaaDoorMem
import Derived.Laws.OwnMore
namespace Go.Proofs.YtoanmnmodlocgaaDoor
open Go.RowKit
set_option linter.unusedVariables false
set_option linter.unusedSimpArgs false

def cellsOf (c : C) : List Value := [.int .i64 c.k, .int .i64 c.n, .string c.s]
def flat (t : List C) : List Value := t.flatMap cellsOf

theorem flat_nil : flat [] = [] := rfl
theorem flat_cons (c : C) (t : List C) : flat (c :: t) = .int .i64 c.k :: .int .i64 c.n :: .string c.s :: flat t := rfl
theorem flat_append (a b : List C) : flat (a ++ b) = flat a ++ flat b := by simp [flat]
theorem flat_length (t : List C) : (flat t).length = t.length * 3 := by
  induction t with
  | nil => rfl
  | cons c t ih => rw [flat_cons]; simp [ih]; omega

theorem flat_get : ∀ (t : List C) (i : Nat) (h : i < t.length), (flat t)[i * 3]? = some (.int .i64 t[i].k) ∧ (flat t)[i * 3 + 1]? = some (.int .i64 t[i].n) ∧ (flat t)[i * 3 + 2]? = some (.string t[i].s)
  | c :: t, 0, _ => ⟨rfl, rfl, rfl⟩
  | c :: t, i + 1, h => by
      have := flat_get t i (by simpa using h)
      rw [flat_cons, show (i + 1) * 3 = i * 3 + 3 by omega]
      simpa using this

theorem set3_take (xs : List Value) (k : Nat) (a b c : Value) (h : k * 3 + 3 ≤ xs.length) :
    (((xs.set (k * 3) a).set (k * 3 + 1) b).set (k * 3 + 2) c).take ((k + 1) * 3) = xs.take (k * 3) ++ [a, b, c] := by
  apply List.ext_getElem?
  intro i
  rw [List.getElem?_take]
  by_cases h1 : i < k * 3
  · rw [if_pos (by omega), List.getElem?_append_left (by simp; omega), List.getElem?_set_ne (by omega), List.getElem?_set_ne (by omega), List.getElem?_set_ne (by omega), List.getElem?_take, if_pos h1]
  · rw [List.getElem?_append_right (by simp; omega)]
    have hl : (xs.take (k * 3)).length = k * 3 := by simp; omega
    rw [hl]
    by_cases e0 : i = k * 3
    · subst e0; rw [if_pos (by omega), List.getElem?_set_ne (by omega), List.getElem?_set_ne (by omega), List.getElem?_set_self (by omega)]; simp
    by_cases e1 : i = k * 3 + 1
    · subst e1; rw [if_pos (by omega), List.getElem?_set_ne (by omega), List.getElem?_set_self (by simp; omega)]; simp [show k * 3 + 1 - k * 3 = 1 by omega]
    by_cases e2 : i = k * 3 + 2
    · subst e2; rw [if_pos (by omega), List.getElem?_set_self (by simp; omega)]; simp [show k * 3 + 2 - k * 3 = 2 by omega]
    · rw [if_neg (by omega), List.getElem?_eq_none (by simp; omega)]

/-- A value that is a row of the call's own leads to its places. -/
theorem owns_at {w : World} {base e g cap n : Nat} {t : List C} (h : w.ownsRow base e 3 (.slice (some ⟨g, 0, none⟩) n cap) n (flat t)) (hn : n = t.length) : At w g 0 t := fun i hi => by
  have f := flat_get t i hi
  have e0 := h.cellAt (i * 3) (by omega)
  have e1 := h.cellAt (i * 3 + 1) (by omega)
  have e2 := h.cellAt (i * 3 + 2) (by omega)
  rw [Nat.zero_add]
  exact ⟨e0.trans f.1, e1.trans f.2.1, e2.trans f.2.2⟩
end Go.Proofs.YtoanmnmodlocgaaDoor
