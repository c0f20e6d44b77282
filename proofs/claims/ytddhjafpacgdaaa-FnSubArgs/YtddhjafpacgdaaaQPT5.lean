/- Two names with arguments are the same if these are, one by one: what SubUnify tells of the pairs, one behind the other. -/
import Derived.Test.YtddhjafpacgdaaaQUF4CB1L1LU1
import Derived.Test.YtddhjafpacgdaaaQPlain3Plain6PT3PT4W16
namespace Go.Proofs.Ytddhjafpacgdaaa
set_option linter.unusedVariables false
set_option linter.unusedSimpArgs false

/-- Bindings behind the first k pairs. -/
structure Inv (s : List B) (xs ys : List (List C)) (k : Nat) (y : List B) : Prop where
  ok : subOk y = true
  up : ∀ τ, Tr τ → Sol τ s → (∀ j (h1 : j < xs.length) (h2 : j < ys.length), j < k → app τ xs[j] = app τ ys[j]) → Sol τ y
  down : ∀ τ, Sol τ y → Sol τ s ∧ ∀ j (h1 : j < xs.length) (h2 : j < ys.length), j < k → app τ xs[j] = app τ ys[j]

theorem Inv.start {s : List B} {xs ys : List (List C)} (h : subOk s = true) : Inv s xs ys 0 s :=
  ⟨h, fun τ _ h _ => h, fun τ h => ⟨h, fun j _ _ hj => absurd hj (Nat.not_lt_zero _)⟩⟩
theorem Inv.step {s : List B} {xs ys : List (List C)} {k : Nat} {y z : List B} (h : Inv s xs ys k y) (h1 : k < xs.length) (h2 : k < ys.length) (hM : UM y xs[k] ys[k] z 1) : Inv s xs ys (k + 1) z := by
  have d := um_done hM
  refine ⟨d.oko, fun τ hT hs he => ?_, fun τ hz => ?_⟩
  · exact (um_not_apart hT hM (h.up τ hT hs (fun j a b hj => he j a b (by omega))) (he k h1 h2 (by omega))).2 rfl
  · have hy := hz.pre (subOk_okB h.ok) d.pre
    obtain ⟨i1, i2⟩ := h.down τ hy
    obtain ⟨n, hU⟩ := d.un
    have e := uni_sound hU (subOk_okB h.ok) (prs_one d.ta d.tb) z rfl hz (xs[k], ys[k]) (by simp)
    refine ⟨i1, fun j a b hj => ?_⟩
    by_cases e2 : j = k
    · subst e2; exact e
    · exact i2 j a b (by omega)

theorem zip_idx {σ : Int → List C} : ∀ {xs ys : List (List C)}, xs.length = ys.length → (∀ j (h1 : j < xs.length) (h2 : j < ys.length), app σ xs[j] = app σ ys[j]) → app σ xs.flatten = app σ ys.flatten
  | [], [], _, _ => rfl
  | x :: xs, y :: ys, hl, h => by
      rw [List.flatten_cons, List.flatten_cons, app_append, app_append, zip_idx (by simpa using hl) (fun j a b => h (j + 1) (Nat.succ_lt_succ a) (Nat.succ_lt_succ b))]
      have := h 0 (by simp) (by simp)
      simp only [List.getElem_cons_zero] at this
      rw [this]

theorem kids_same {τ : Int → List C} (hT : Tr τ) {c : C} {xs ys : List (List C)} (hc : c.k ≠ 1) (hxs : ∀ k ∈ xs, Trm k) (hys : ∀ k ∈ ys, Trm k) (e : app τ (c :: xs.flatten) = app τ (c :: ys.flatten)) : ∀ j (h1 : j < xs.length) (h2 : j < ys.length), app τ xs[j] = app τ ys[j] := by
  rw [app_cons hc, app_cons hc] at e
  have e2 := (List.cons.inj e).2
  rw [app_flat, app_flat] at e2
  have tm : ∀ (l : List (List C)), (∀ k ∈ l, Trm k) → ∀ k ∈ l.map (app τ), ∃ f, Tm f k := fun l hl k hk => by
    obtain ⟨k', hk', rfl⟩ := List.mem_map.1 hk
    obtain ⟨f, hf⟩ := (hl k' hk').1
    exact app_tm hT f k' hf
  have e3 := tms_one (tm xs hxs) (tm ys hys) e2
  intro j h1 h2
  have : (xs.map (app τ))[j]? = (ys.map (app τ))[j]? := by rw [e3]
  rw [List.getElem?_map, List.getElem?_map, List.getElem?_eq_getElem h1, List.getElem?_eq_getElem h2] at this
  simpa using this

/-- A pair that is apart makes both apart. -/
theorem args_apart {s : List B} {c : C} {xs ys : List (List C)} {k : Nat} {x y z : List B} {hh e : Int} (hc : c.k ≠ 1) (hxs : ∀ k ∈ xs, Trm k) (hys : ∀ k ∈ ys, Trm k) (hI : Inv s xs ys k y) (h1 : k < xs.length) (h2 : k < ys.length) (hM : UM s (c :: xs.flatten) (c :: ys.flatten) x hh) (hN : UM y xs[k] ys[k] z e) (e2 : e = 2) : hh ≠ 1 := fun e1 => by
  subst e1
  subst e2
  have d := um_done hM
  have hT := ev_tr (subOk_okB d.oko)
  have hk := kids_same hT hc hxs hys d.same
  exact (um_not_apart hT hN (hI.up _ hT d.sol (fun j a b _ => hk j a b)) (hk k h1 h2)).1 rfl

/-- Where all pairs are the same both are, and by either way alike. -/
theorem args_done {s : List B} {c : C} {xs ys : List (List C)} {x y : List B} {hh : Int} (hl : xs.length = ys.length) (hc : c.k ≠ 1) (hxs : ∀ k ∈ xs, Trm k) (hys : ∀ k ∈ ys, Trm k) (hI : Inv s xs ys xs.length y) (hM : UM s (c :: xs.flatten) (c :: ys.flatten) x hh) : hh ≠ 2 ∧ (hh = 1 → ∃ u v, fullB x (c :: xs.flatten) = some u ∧ fullB y (c :: xs.flatten) = some v ∧ canonOf u = canonOf v) := by
  have oy := subOk_okB hI.ok
  have hT := ev_tr oy
  obtain ⟨i1, i2⟩ := hI.down _ (sol_ev oy)
  have e : app (ev y) (c :: xs.flatten) = app (ev y) (c :: ys.flatten) := by
    rw [app_cons hc, app_cons hc, zip_idx hl (fun j a b => i2 j a b a)]
  have p := um_not_apart hT hM i1 e
  refine ⟨p.1, fun e1 => ?_⟩
  have S1 := p.2 e1
  subst e1
  have d := um_done hM
  have hT2 := ev_tr (subOk_okB d.oko)
  have S2 := hI.up _ hT2 d.sol (fun j a b _ => kids_same hT2 hc hxs hys d.same j a b)
  obtain ⟨e3, l⟩ := canon_two d.oko hI.ok d.ta S2 S1
  exact ⟨_, _, d.full.1, by rw [fullB_ev hI.ok d.ta, if_pos (by rw [← l]; exact d.lz)], e3⟩

/-- Two names that differ are not the same. -/
theorem names_apart {s : List B} {c d : C} {x' y' : List C} {o : List B} {hh : Int} (hc : c.k ≠ 1) (hd : d.k ≠ 1) (hcd : c ≠ d) (hM : UM s (c :: x') (d :: y') o hh) : hh ≠ 1 := fun e1 => by
  subst e1
  have h := (um_done hM).same
  rw [app_cons hc, app_cons hd] at h
  exact hcd (List.cons.inj h).1
end Go.Proofs.Ytddhjafpacgdaaa
