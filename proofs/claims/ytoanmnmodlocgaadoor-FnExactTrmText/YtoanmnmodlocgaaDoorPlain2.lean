/- The plain mathematics of terms, more: a term's places are just its. -/
import Derived.Test.YtoanmnmodlocgaaDoorPlain
namespace Go.Proofs.YtoanmnmodlocgaaDoor
set_option linter.unusedVariables false
set_option linter.unusedSimpArgs false

theorem ends_append : ∀ (a b : List C) (m : Int) (j : Nat), ends m a = some j → ends m (a ++ b) = some j
  | [], b, m, j, h => by
      simp only [ends] at h
      by_cases hm : m ≤ 0
      · rw [if_pos hm] at h
        cases b <;> simp [ends, hm] <;> simpa using h
      · rw [if_neg hm] at h; cases h
  | c :: a, b, m, j, h => by
      simp only [ends, List.cons_append] at h ⊢
      by_cases hm : m ≤ 0
      · rw [if_pos hm] at h ⊢; exact h
      · rw [if_neg hm] at h ⊢
        cases he : ends (m - 1 + ari c) a with
        | none => rw [he] at h; cases h
        | some i =>
          rw [he] at h
          rw [ends_append a b _ i he]
          exact h

/-- No beginning of a term but all of it is a term. -/
theorem trm_take {t : List C} (h : trm t = true) {k : Nat} (hk : k < t.length) : trm (t.take k) = false := by
  cases e : trm (t.take k) with
  | false => rfl
  | true =>
    exfalso
    have h1 := ((trm_iff t).1 h).2.2.2
    have h2 := ((trm_iff _).1 e).2.2.2
    have h3 := ends_append _ (t.drop k) _ _ h2
    rw [List.take_append_drop, h1] at h3
    simp at h3
    omega

/-- With one place more it is none. -/
theorem trm_more {t : List C} (h : trm t = true) (c : C) : trm (t ++ [c]) = false := by
  cases e : trm (t ++ [c]) with
  | false => rfl
  | true =>
    exfalso
    have h1 := ((trm_iff t).1 h).2.2.2
    have h2 := ((trm_iff _).1 e).2.2.2
    rw [ends_append t [c] _ _ h1] at h2
    simp at h2

theorem trm_len {t : List C} (h : trm t = true) : 1 ≤ t.length ∧ t.length ≤ 40 := ⟨((trm_iff t).1 h).1, ((trm_iff t).1 h).2.1⟩

theorem trm_one : trm [⟨2, 1, ByteArray.mk #[]⟩] = true := by decide
end Go.Proofs.YtoanmnmodlocgaaDoor
