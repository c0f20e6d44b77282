/- What is drawn: places that may be no term (l20Spoil), and either (l20TermOr). -/
import Derived.Test.YthelpghiafbejaaDoorQD2D3
namespace Go.Proofs.YthelpghiafbejaaDoor
open Go.RowKit
set_option linter.unusedVariables false
set_option linter.unusedSimpArgs false

theorem flat_set_k : ∀ (t : List C) (k : Nat) (h : k < t.length) (x : Int), (flat t).set (k * 3) (.int .i64 x) = flat (t.set k ⟨x, t[k].n, t[k].s⟩)
  | c :: t, 0, _, x => rfl
  | c :: t, k + 1, h, x => by
      have ih := flat_set_k t k (by simpa using h) x
      rw [flat_cons, show (k + 1) * 3 = k * 3 + 1 + 1 + 1 by omega, List.set_cons_succ, List.set_cons_succ, List.set_cons_succ, ih, List.set_cons_succ, flat_cons]
      rfl
theorem flat_set_n : ∀ (t : List C) (k : Nat) (h : k < t.length) (x : Int), (flat t).set (k * 3 + 1) (.int .i64 x) = flat (t.set k ⟨t[k].k, x, t[k].s⟩)
  | c :: t, 0, _, x => rfl
  | c :: t, k + 1, h, x => by
      have ih := flat_set_n t k (by simpa using h) x
      rw [flat_cons, show (k + 1) * 3 + 1 = k * 3 + 1 + 1 + 1 + 1 by omega, List.set_cons_succ, List.set_cons_succ, List.set_cons_succ, ih, List.set_cons_succ, flat_cons]
      rfl
theorem flat_set_s : ∀ (t : List C) (k : Nat) (h : k < t.length) (x : ByteArray), (flat t).set (k * 3 + 2) (.string x) = flat (t.set k ⟨t[k].k, t[k].n, x⟩)
  | c :: t, 0, _, x => rfl
  | c :: t, k + 1, h, x => by
      have ih := flat_set_s t k (by simpa using h) x
      rw [flat_cons, show (k + 1) * 3 + 2 = k * 3 + 2 + 1 + 1 + 1 by omega, List.set_cons_succ, List.set_cons_succ, List.set_cons_succ, ih, List.set_cons_succ, flat_cons]
      rfl
theorem flat_set3 (t : List C) (k : Nat) (h : k < t.length) (c : C) : (((flat t).set (k * 3) (.int .i64 c.k)).set (k * 3 + 1) (.int .i64 c.n)).set (k * 3 + 2) (.string c.s) = flat (t.set k c) := by
  rw [flat_set_k t k h, flat_set_n _ k (by simpa using h), flat_set_s _ k (by simpa using h)]
  simp

theorem flat_take (t : List C) (k : Nat) (h : k ≤ t.length) : (flat t).take (k * 3) = flat (t.take k) := by
  have e : flat t = flat (t.take k) ++ flat (t.drop k) := by rw [← flat_append, List.take_append_drop]
  rw [e, List.take_left' (by rw [flat_length]; simp; omega)]

theorem flat_one (t : List C) : ∀ u ∈ flat t, u.oneCell' = true := by
  intro u hu
  unfold flat at hu
  obtain ⟨c, _, hc⟩ := List.mem_flatMap.1 hu
  simp [cellsOf] at hc
  rcases hc with rfl | rfl | rfl <;> rfl

theorem all_set {P : C → Prop} {t : List C} {k : Nat} {c : C} (h : ∀ d ∈ t, P d) (hc : P c) : ∀ d ∈ t.set k c, P d := fun d hd => by
  rcases List.mem_or_eq_of_mem_set hd with h' | h'
  · exact h d h'
  · subst h'; exact hc

theorem At.each {w : World} {b off : Nat} {t : List C} (h : At w b off t) : ∀ j u, (flat t)[j]? = some u → w.cell? ((⟨b, off, none⟩ : Addr).add j) = some u := by
  intro j u hj
  have hl : j < t.length * 3 := by
    have := (List.getElem?_eq_some_iff.1 hj).1
    rw [flat_length] at this; exact this
  have hk : j / 3 < t.length := by omega
  have f := flat_get t (j / 3) hk
  have a := h (j / 3) hk
  have ad : (⟨b, off, none⟩ : Addr).add j = ⟨b, off + j, none⟩ := by
    unfold Addr.add
    by_cases h0 : j = 0
    · simp [h0]
    · simp [h0]
  rw [ad]
  obtain h0 | h0 | h0 : j = j / 3 * 3 ∨ j = j / 3 * 3 + 1 ∨ j = j / 3 * 3 + 2 := by omega
  · rw [h0, f.1] at hj; rw [h0, ← hj]; exact a.1
  · rw [h0, f.2.1] at hj; rw [h0, ← hj]; exact a.2.1
  · rw [h0, f.2.2] at hj; rw [h0, ← hj]; exact a.2.2

/-- A row of the call's own, behind its cut. -/
theorem own_cut {w : World} {base g cap k : Nat} {t : List C} (h : OwnC w base (.slice (some ⟨g, 0, none⟩) t.length cap) t) (hk : k ≤ t.length) : OwnC w base (.slice (some ⟨g, 0, none⟩) k cap) (t.take k) := by
  have hl : (t.take k).length = k := by simp; omega
  rcases h.2 with ⟨e, _⟩ | ⟨g', cap', cur, e, hb, hg, hn, hc, hcs, htake⟩
  · simp at e
  · simp only [Value.slice.injEq, Option.some.injEq, Addr.mk.injEq, and_true, true_and] at e
    obtain ⟨rfl, rfl⟩ := e
    unfold OwnC
    rw [hl]
    refine ⟨by rw [flat_length, hl], .inr ⟨g, cap, cur, rfl, hb, hg, by omega, hc, hcs, ?_⟩⟩
    rw [← flat_take t k hk, ← htake, List.take_take, Nat.min_eq_left (by omega)]

/-- A place of a row of the call's own. -/
theorem own_place {w : World} {base g cap k : Nat} {t : List C} (h : OwnC w base (.slice (some ⟨g, 0, none⟩) t.length cap) t) (hk : k < t.length) :
    w.cell? ⟨g, k * 3, none⟩ = some (.int .i64 t[k].k) ∧ w.cell? ⟨g, k * 3 + 1, none⟩ = some (.int .i64 t[k].n) ∧ w.cell? ⟨g, k * 3 + 2, none⟩ = some (.string t[k].s) ∧ w.frozen? ⟨g, k * 3, none⟩ = false ∧ w.frozen? ⟨g, k * 3 + 1, none⟩ = false ∧ w.frozen? ⟨g, k * 3 + 2, none⟩ = false := by
  have f := flat_get t k hk
  exact ⟨(h.cellAt (k * 3) (by omega)).trans f.1, (h.cellAt (k * 3 + 1) (by omega)).trans f.2.1, (h.cellAt (k * 3 + 2) (by omega)).trans f.2.2, h.frozenAt _, h.frozenAt _, h.frozenAt _⟩
end Go.Proofs.YthelpghiafbejaaDoor
