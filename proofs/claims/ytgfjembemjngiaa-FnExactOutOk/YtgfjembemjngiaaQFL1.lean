/- The walk of l2Full, the specification's way to lay in what is bound. -/
import Derived.Test.YtgfjembemjngiaaQSL1SO1
import Derived.Deep.LoopGhost
import Derived.Deep.AppendLies
namespace Go.Proofs.Ytgfjembemjngiaa
open Go.RowKit
set_option linter.unusedVariables false
set_option linter.unusedSimpArgs false

theorem three_at (w : World) (x y z : Value) (T N : Nat) (hN : w.heap.size = N) : ∀ j u, [x, y, z][j]? = some u → (w.alloc (.cells #[x, y, z] T)).cell? ((⟨N, 0, none⟩ : Addr).add j) = some u := by
  subst hN
  exact cell_three_new w x y z T

/-- A slice with an address that leads to places. -/
def Td (w : World) (v : Value) (t : List C) : Prop := ∃ b off cap, v = .slice (some ⟨b, off, none⟩) t.length cap ∧ At w b off t ∧ t.length ≤ cap ∧ cap ≤ maxLen ∧ b < w.heap.size

theorem Td.apart {w w1 : World} {v : Value} {t : List C} {row : Option Nat} (h : Td w v t) (hg : w.grownBy w1 row) (hr : v.ownBlock ≠ row) : Td w1 v t := by
  obtain ⟨b, off, cap, rfl, hA, h1, h2, h3⟩ := h
  exact ⟨b, off, cap, rfl, hA.kept (hg.block b h3 hr), h1, h2, Nat.lt_of_lt_of_le h3 hg.size⟩
theorem Td.below {w w1 : World} {v : Value} {t : List C} (h : Td w v t) (hb : Below w.heap.size w w1) : Td w1 v t := by
  obtain ⟨b, off, cap, rfl, hA, h1, h2, h3⟩ := h
  exact ⟨b, off, cap, rfl, hA.below hb, h1, h2, Nat.lt_of_lt_of_le h3 hb.size⟩

theorem own_td {w : World} {base : Nat} {v : Value} {t : List C} (h : OwnC w base v t) (hp : 1 ≤ t.length) : Td w v t ∧ v.ownBlock ≠ none := by
  have h' := h
  rcases h.2 with ⟨e, hn⟩ | ⟨g, cap, cur, e, hg, hh, hc, hm, _⟩
  · omega
  · subst e
    exact ⟨⟨g, 0, cap, rfl, owns_at h' rfl, hc, hm, (Array.getElem?_eq_some_iff.1 hh).1⟩, by simp [Value.ownBlock]⟩

theorem td_tail {w : World} {b off cap : Nat} {c : C} {t : List C} (hA : At w b off (c :: t)) (h1 : (c :: t).length ≤ cap) (h2 : cap ≤ maxLen) (h3 : b < w.heap.size) : ∃ off', (if cap = 1 then some (⟨b, off, none⟩ : Addr) else some ⟨b, off + 3, none⟩) = some ⟨b, off', none⟩ ∧ Td w (.slice (some ⟨b, off', none⟩) t.length (cap - 1)) t := by
  have hl : t.length + 1 ≤ cap := by simpa using h1
  by_cases hc : cap = 1
  · have ht : t = [] := List.length_eq_zero_iff.1 (by omega)
    subst ht
    exact ⟨off, by rw [if_pos hc], b, off, cap - 1, rfl, fun i hi => by simp at hi, by simp, by omega, h3⟩
  · refine ⟨off + 3, by rw [if_neg hc], b, off + 3, cap - 1, rfl, fun i hi => ?_, by omega, by omega, h3⟩
    have := hA (i + 1) (by first | omega | (simp; omega))
    simp only [List.getElem_cons_succ] at this
    rw [show off + 3 + i * 3 = off + (i + 1) * 3 by omega]
    exact this

/-- How far l2Full has come. -/
def FullAt (s : List B) (t' : List C) (w : World) (k : Nat) (ov tv : Value) (wr : World) : Prop :=
  ∃ o td rest, Exp s k td rest ∧ o ++ rest = t' ∧ o.length + td.length ≤ 40 ∧ OwnC wr w.heap.size ov o ∧ Td wr tv td ∧ tv.ownBlock ≠ ov.ownBlock ∧ tv.ownBlock ≠ none ∧ Below w.heap.size w wr

/-- What l2Full tells. -/
def FullOut (t' : List C) (w : World) (e : Ending) (w' : World) : Prop :=
  ∃ v, OwnC w' w.heap.size v (if t'.length ≤ 40 then t' else []) ∧ e = .returned (.tuple #[v, .bool (decide (t'.length ≤ 40))]) ∧ Below w.heap.size w w'

theorem full_yes {t' : List C} {w w' : World} {v : Value} (h : OwnC w' w.heap.size v t') (hl : t'.length ≤ 40) (hb : Below w.heap.size w w') : FullOut t' w (.returned (.tuple #[v, .bool true])) w' :=
  ⟨v, by rw [if_pos hl]; exact h, by rw [decide_eq_true hl], hb⟩
theorem full_no {t' : List C} {w w' : World} {v : Value} (h : OwnC w' w.heap.size v []) (hl : ¬ t'.length ≤ 40) (hb : Below w.heap.size w w') : FullOut t' w (.returned (.tuple #[v, .bool false])) w' :=
  ⟨v, by rw [if_neg hl]; exact h, by rw [decide_eq_false hl], hb⟩

end Go.Proofs.Ytgfjembemjngiaa
