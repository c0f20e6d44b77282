import Derived.Test.YthelpghiafbejaaDoorQPlain
import Derived.Test.YthelpghiafbejaaDoorQYB2W2
import Derived.Test.YthelpghiafbejaaDoorQW3W4
import Derived.Test.YthelpghiafbejaaDoorQSB1
import Derived.Lib.AppendStr
import Derived.BigQuiet
import Derived.Deep.RegionWith
/- The plain mathematics of terms, more: a term's places are just its. -/
namespace Go.Proofs.YthelpghiafbejaaDoor
set_option linter.unusedVariables false
set_option linter.unusedSimpArgs false

theorem ends_append : ∀ (a b : List C) (m : Int) (j : Nat), ends m a = some j → ends m (a ++ b) = some j
  | [], b, m, j, h => by
      simp only [ends] at h
      by_cases hm : m ≤ 0
      · rw [if_pos hm] at h
        cases b <;> simp [ends, hm] <;> simpa using h
      · rw [if_neg hm] at h; cases h
  | c :: a, b, m, j, h => by
      simp only [ends, List.cons_append] at h ⊢
      by_cases hm : m ≤ 0
      · rw [if_pos hm] at h ⊢; exact h
      · rw [if_neg hm] at h ⊢
        cases he : ends (m - 1 + ari c) a with
        | none => rw [he] at h; cases h
        | some i =>
          rw [he] at h
          rw [ends_append a b _ i he]
          exact h

/-- No beginning of a term but all of it is a term. -/
theorem trm_take {t : List C} (h : trm t = true) {k : Nat} (hk : k < t.length) : trm (t.take k) = false := by
  cases e : trm (t.take k) with
  | false => rfl
  | true =>
    exfalso
    have h1 := ((trm_iff t).1 h).2.2.2
    have h2 := ((trm_iff _).1 e).2.2.2
    have h3 := ends_append _ (t.drop k) _ _ h2
    rw [List.take_append_drop, h1] at h3
    simp at h3
    omega

/-- With one place more it is none. -/
theorem trm_more {t : List C} (h : trm t = true) (c : C) : trm (t ++ [c]) = false := by
  cases e : trm (t ++ [c]) with
  | false => rfl
  | true =>
    exfalso
    have h1 := ((trm_iff t).1 h).2.2.2
    have h2 := ((trm_iff _).1 e).2.2.2
    rw [ends_append t [c] _ _ h1] at h2
    simp at h2

theorem trm_len {t : List C} (h : trm t = true) : 1 ≤ t.length ∧ t.length ≤ 40 := ⟨((trm_iff t).1 h).1, ((trm_iff t).1 h).2.1⟩

theorem trm_one : trm [⟨2, 1, ByteArray.mk #[]⟩] = true := by decide
end Go.Proofs.YthelpghiafbejaaDoor

/- A term in bytes, by lists; the specification's TrmBytes. -/
namespace Go.Proofs.YthelpghiafbejaaDoor
open Go.RowKit
set_option linter.unusedVariables false
set_option linter.unusedSimpArgs false
attribute [-go_sem] Go.Builtin.append_

/-- A text's bytes. -/
def bytesL (s : ByteArray) : List Int := s.data.toList.map fun b => (b.toNat : Int)
theorem bytesL_length (s : ByteArray) : (bytesL s).length = s.size := by simp [bytesL]
theorem bytesL_by (s : ByteArray) : ByL (bytesL s) := fun x hx => by
  obtain ⟨b, _, rfl⟩ := List.mem_map.1 hx
  have := b.toNat_lt
  omega
theorem strCells_bys (s : ByteArray) : Go.Lib.strCells s = bys (bytesL s) := by
  simp [Go.Lib.strCells, bys, bytesL]

/-- A place in bytes. -/
def encC (c : C) : List Int := [c.k] ++ num3 c.n ++ if c.k = 3 then [(c.s.size : Int)] ++ bytesL c.s else []
def encL (t : List C) : List Int := t.flatMap encC
/-- A term in bytes; none, if it is none. -/
def encT (t : List C) : List Int := if trm t then [(t.length : Int)] ++ encL t else []

theorem num3_length (n : Int) : (num3 n).length = 3 := by simp [num3, highs]
theorem okC_parts {c : C} (h : okC c = true) : (c.k = 1 ∨ c.k = 2 ∨ c.k = 3) ∧ -9999 ≤ c.n ∧ c.n ≤ 99999 ∧ c.s.size ≤ 8 := by
  by_cases h1 : c.k = 1
  · have := (okC1 h1).1 h
    omega
  by_cases h2 : c.k = 2
  · have := (okC2 h2).1 h
    omega
  by_cases h3 : c.k = 3
  · have := (okC3 h3).1 h
    have h4 := this.2.2
    unfold nameB at h4
    simp only [Bool.and_eq_true, decide_eq_true_eq] at h4
    omega
  · rw [okC4 h1 h2 h3] at h
    cases h
theorem encC_length {c : C} (h : okC c = true) : (encC c).length ≤ 13 := by
  have := okC_parts h
  unfold encC
  rw [List.length_append, List.length_append, num3_length]
  split
  · rw [List.length_append, bytesL_length]
    simp
    omega
  · simp
theorem encL_length : ∀ (t : List C), (∀ c ∈ t, okC c = true) → (encL t).length ≤ 13 * t.length
  | [], _ => by simp [encL]
  | c :: t, h => by
      have h1 := encC_length (h c (by simp))
      have h2 := encL_length t (fun x hx => h x (by simp [hx]))
      unfold encL at h2 ⊢
      rw [List.flatMap_cons, List.length_append, List.length_cons]
      omega
theorem encL_take {t : List C} {k : Nat} (h : k < t.length) : encL (t.take (k + 1)) = encL (t.take k) ++ encC t[k] := by
  unfold encL
  rw [List.take_succ_eq_append_getElem h, List.flatMap_append]
  simp
theorem by_mod (x : Int) : 0 ≤ x % 256 ∧ x % 256 ≤ 255 := by
  have h1 := Int.emod_nonneg x (show (256 : Int) ≠ 0 by omega)
  have h2 := Int.emod_lt_of_pos x (show (0 : Int) < 256 by omega)
  omega
theorem encC_by {c : C} (h : okC c = true) : ByL (encC c) := by
  have hp := okC_parts h
  unfold encC
  refine ByL.app (ByL.app (ByL.one (by omega)) (highs_by _ _)) ?_
  split
  · exact ByL.app (ByL.one (by omega)) (bytesL_by _)
  · exact ByL.nil
theorem encL_by {t : List C} (h : ∀ c ∈ t, okC c = true) : ByL (encL t) := fun x hx => by
  obtain ⟨c, hc, h'⟩ := List.mem_flatMap.1 hx
  exact encC_by (h c hc) x h'
theorem encT_by (t : List C) : ByL (encT t) := by
  unfold encT
  split
  · rename_i h
    have h1 := (trm_iff t).1 h
    exact ByL.app (ByL.one (by omega)) (encL_by h1.2.2.1)
  · exact ByL.nil
theorem encT_length (t : List C) : (encT t).length ≤ 521 := by
  unfold encT
  split
  · rename_i h
    have h1 := (trm_iff t).1 h
    have h2 := encL_length t h1.2.2.1
    simp
    omega
  · simp

/-- The run of an append of a text's bytes. -/
theorem app_str (w : World) (base : Nat) (v : Value) (z : List Int) (s : ByteArray) (hO : OwnY w base v z) (hb : base ≤ w.heap.size) (hz : z.length + s.size ≤ 4194304) :
    ∃ v' w', (Builtin.append_ #[28, 9] 28 #[v, .string s]).run Tryd.prog w = .ok v' w' ∧ OwnY w' base v' (z ++ bytesL s) ∧ w.grownBy w' v.ownBlock := by
  obtain ⟨i0, hi, hz0, hz1, hz2⟩ := info_parts Tryd.infoByte
  obtain ⟨v', w', hr, ho, hg, _⟩ := Go.Lib.run_append_own_string (P := Tryd.prog) w base 28 9 28 5 i0 Tryd.underlying28 Tryd.underlying9 hi hz0 hz1 hz2 v z.length (bys z) hO s (by unfold maxLen; omega) (by omega) hb
  refine ⟨v', w', hr, ?_, hg⟩
  unfold OwnY
  rw [List.length_append, bys_app, bytesL_length, ← strCells_bys]
  exact ho

/-- New bytes are owned. -/
theorem own_new (w : World) (base : Nat) (y : List Int) (cs : Array Value) (hcs : cs = (bys y).toArray) (n : Nat) (hn : n = y.length) (hb : base ≤ w.heap.size) (hl : y.length ≤ 4194304) :
    OwnY (w.alloc (.cells cs 5)) base (.slice (some ⟨w.heap.size, 0, none⟩) n n) y := by
  subst hcs hn
  refine ⟨by simp [bys], .inr ⟨w.heap.size, y.length, _, rfl, hb, heap_alloc_new w _, Nat.le_refl _, by unfold maxLen; omega, by simp [bys], ?_⟩⟩
  simp [bys, List.take_of_length_le]

end Go.Proofs.YthelpghiafbejaaDoor
