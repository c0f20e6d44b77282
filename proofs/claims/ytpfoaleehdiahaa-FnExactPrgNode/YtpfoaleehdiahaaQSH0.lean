/- What TrmShift is of places: the plain part. -/
import Derived.Test.YtpfoaleehdiahaaQT5
namespace Go.Proofs.Ytpfoaleehdiahaa
open Go.RowKit Go.Shelf
set_option linter.unusedVariables false
set_option linter.unusedSimpArgs false

def shiftC (n : Int) (c : C) : C := if c.k = 1 then ⟨c.k, c.n + n, c.s⟩ else c

/-- What TrmShift is of places. -/
def shiftOf (t : List C) (n : Int) : List C := if trm t = true ∧ 0 ≤ n ∧ n ≤ 99999 then listed (t.map (shiftC n)) else []

theorem shiftOf_no {t : List C} {n : Int} (h : trm t = false) : shiftOf t n = [] := by simp [shiftOf, h]
theorem shiftOf_out {t : List C} {n : Int} (h : n < 0 ∨ 99999 < n) : shiftOf t n = [] := by
  unfold shiftOf; rw [if_neg (fun h' => by omega)]
theorem shiftOf_in {t : List C} {n : Int} (h : trm t = true) (h0 : 0 ≤ n) (h1 : n ≤ 99999) : shiftOf t n = listed (t.map (shiftC n)) := by
  unfold shiftOf; rw [if_pos ⟨h, h0, h1⟩]
theorem listed_len (t : List C) : (listed t).length ≤ t.length := by unfold listed; split <;> simp
theorem shiftOf_len (t : List C) (n : Int) : (shiftOf t n).length ≤ t.length := by
  unfold shiftOf; split
  · have := listed_len (t.map (shiftC n)); simpa using this
  · simp
theorem shiftC_ari (n : Int) (c : C) : ari (shiftC n c) = ari c := by unfold shiftC ari; split <;> simp_all
theorem shiftC_k (n : Int) (c : C) : (shiftC n c).k = c.k := by unfold shiftC; split <;> rfl
theorem shiftC_s (n : Int) (c : C) : (shiftC n c).s = c.s := by unfold shiftC; split <;> rfl
end Go.Proofs.Ytpfoaleehdiahaa
