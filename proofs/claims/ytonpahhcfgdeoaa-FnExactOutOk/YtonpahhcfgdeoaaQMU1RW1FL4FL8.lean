import Derived.Test.YtonpahhcfgdeoaaQT6U4
import Derived.Test.YtonpahhcfgdeoaaQW7W18T5BR1BG1
import Derived.Test.YtonpahhcfgdeoaaQFL1U1MS1MK1
import Derived.Test.YtonpahhcfgdeoaaQPB4W1
import Derived.Test.YtonpahhcfgdeoaaQT3Plain2T4
import Derived.Test.YtonpahhcfgdeoaaQFL3FL5FL7
/- One step of makeSame, as lists. -/
namespace Go.Proofs.Ytonpahhcfgdeoaa
set_option linter.unusedVariables false
set_option linter.unusedSimpArgs false

theorem uni_var_left {n n1 n2 : Nat} {s sf : List B} {a b X Y : List C} {c d : C} {r : List (List C × List C)} {res : Option (List B)} (hU : Uni n s ((a, b) :: r) res sf) (hx : Now s n1 a (c :: X)) (hy : Now s n2 b (d :: Y)) (hc : c.k = 1) (hcd : c ≠ d) :
    X = [] ∧ ((¬ Reach s (d :: Y) c.n ∧ ∃ n', n = n' + 1 ∧ Uni n' (s ++ [⟨c.n, d :: Y⟩]) r res sf) ∨ (Reach s (d :: Y) c.n ∧ res = none)) := by
  rcases uni_cases hU hx hy with ⟨n', c', xs, ys, _, e1, e2, _⟩ | ⟨n', c', e0, e1, _, _, h3, h4⟩ | ⟨c', e1, _, _, h3, h4⟩ | ⟨n', c', _, _, _, ⟨d', q, e1, h⟩, _⟩ | ⟨c', _, _, ⟨d', q, e1, h⟩, _⟩ | ⟨c', d', q, q', e1, _, h, _⟩
  · simp only [List.cons.injEq] at e1 e2
    exact absurd (e1.1.trans e2.1.symm) hcd
  · simp only [List.cons.injEq] at e1
    obtain ⟨rfl, rfl⟩ := e1
    exact ⟨rfl, .inl ⟨h3, n', e0, h4⟩⟩
  · simp only [List.cons.injEq] at e1
    obtain ⟨rfl, rfl⟩ := e1
    exact ⟨rfl, .inr ⟨h3, h4⟩⟩
  · simp only [List.cons.injEq] at e1
    exact absurd (by rw [← e1.1]; exact hc) h
  · simp only [List.cons.injEq] at e1
    exact absurd (by rw [← e1.1]; exact hc) h
  · simp only [List.cons.injEq] at e1
    exact absurd (by rw [← e1.1]; exact hc) h

theorem uni_var_right {n n1 n2 : Nat} {s sf : List B} {a b X Y : List C} {c d : C} {r : List (List C × List C)} {res : Option (List B)} (hU : Uni n s ((a, b) :: r) res sf) (hx : Now s n1 a (c :: X)) (hy : Now s n2 b (d :: Y)) (hc : c.k ≠ 1) (hd : d.k = 1) :
    Y = [] ∧ ((¬ Reach s (c :: X) d.n ∧ ∃ n', n = n' + 1 ∧ Uni n' (s ++ [⟨d.n, c :: X⟩]) r res sf) ∨ (Reach s (c :: X) d.n ∧ res = none)) := by
  rcases uni_cases hU hx hy with ⟨n', c', xs, ys, _, e1, e2, _⟩ | ⟨n', c', e0, e1, h2, _, h3, h4⟩ | ⟨c', e1, h2, _, h3, h4⟩ | ⟨n', c', e0, e1, _, _, h3, h4⟩ | ⟨c', e1, _, _, h3, h4⟩ | ⟨c', d', q, q', _, e2, _, h, _⟩
  · simp only [List.cons.injEq] at e1 e2
    exact absurd (by rw [e1.1, ← e2.1]; exact hd) hc
  · simp only [List.cons.injEq] at e1
    exact absurd (by rw [e1.1]; exact h2) hc
  · simp only [List.cons.injEq] at e1
    exact absurd (by rw [e1.1]; exact h2) hc
  · simp only [List.cons.injEq] at e1
    obtain ⟨rfl, rfl⟩ := e1
    exact ⟨rfl, .inl ⟨h3, n', e0, h4⟩⟩
  · simp only [List.cons.injEq] at e1
    obtain ⟨rfl, rfl⟩ := e1
    exact ⟨rfl, .inr ⟨h3, h4⟩⟩
  · simp only [List.cons.injEq] at e2
    exact absurd (by rw [← e2.1]; exact hd) h

theorem uni_far {n n1 n2 : Nat} {s sf : List B} {a b X Y : List C} {c d : C} {r : List (List C × List C)} {res : Option (List B)} (hU : Uni n s ((a, b) :: r) res sf) (hx : Now s n1 a (c :: X)) (hy : Now s n2 b (d :: Y)) (hc : c.k ≠ 1) (hd : d.k ≠ 1) (hcd : c ≠ d) : res = none := by
  rcases uni_cases hU hx hy with ⟨n', c', xs, ys, _, e1, e2, _⟩ | ⟨n', c', e0, e1, h2, _⟩ | ⟨c', e1, h2, _⟩ | ⟨n', c', e0, e1, h2, _⟩ | ⟨c', e1, h2, _⟩ | ⟨c', d', q, q', _, _, _, _, _, h⟩
  · simp only [List.cons.injEq] at e1 e2
    exact absurd (e1.1.trans e2.1.symm) hcd
  · simp only [List.cons.injEq] at e1
    exact absurd (by rw [e1.1]; exact h2) hc
  · simp only [List.cons.injEq] at e1
    exact absurd (by rw [e1.1]; exact h2) hc
  · simp only [List.cons.injEq] at e1
    exact absurd (by rw [e1.1]; exact h2) hd
  · simp only [List.cons.injEq] at e1
    exact absurd (by rw [e1.1]; exact h2) hd
  · exact h

theorem trms_one {ks ks' : List (List C)} (h : ∀ k ∈ ks, Trm k) (h' : ∀ k ∈ ks', Trm k) (e : ks.flatten = ks'.flatten) : ks = ks' := by
  have up : ∀ (l : List (List C)), (∀ k ∈ l, Trm k) → ∃ f, ∀ k ∈ l, Tm f k := by
    intro l
    induction l with
    | nil => exact fun _ => ⟨0, fun k h => by simp at h⟩
    | cons x l ih =>
      intro hl
      obtain ⟨f, hf⟩ := ih (fun k hk => hl k (by simp [hk]))
      obtain ⟨g, hg⟩ := (hl x (by simp)).1
      refine ⟨max f g, fun k hk => ?_⟩
      rcases List.mem_cons.1 hk with rfl | hk
      · exact hg.mono (Nat.le_max_right _ _)
      · exact (hf k hk).mono (Nat.le_max_left _ _)
  obtain ⟨f, hf⟩ := up ks h
  obtain ⟨g, hg⟩ := up ks' h'
  exact trees_one (f := max f g) ks ks' (fun k hk => (hf k hk).mono (Nat.le_max_left _ _)) (fun k hk => (hg k hk).mono (Nat.le_max_right _ _)) e

theorem uni_same {n n1 n2 : Nat} {s sf : List B} {a b : List C} {xs ys : List (List C)} {c : C} {r : List (List C × List C)} {res : Option (List B)} (hU : Uni n s ((a, b) :: r) res sf) (hx : Now s n1 a (c :: xs.flatten)) (hy : Now s n2 b (c :: ys.flatten)) (hxs : ∀ k ∈ xs, Trm k) (hys : ∀ k ∈ ys, Trm k) :
    ∃ n', n = n' + 1 ∧ Uni n' s (xs.zip ys ++ r) res sf := by
  rcases uni_cases hU hx hy with ⟨n', c', xs', ys', e0, e1, e2, h1, h2, _, _, h3⟩ | ⟨n', c', e0, e1, h2, h3, _⟩ | ⟨c', e1, h2, h3, _⟩ | ⟨n', c', e0, e1, h2, ⟨d', q, e2, h⟩, _⟩ | ⟨c', e1, h2, ⟨d', q, e2, h⟩, _⟩ | ⟨c', d', q, q', e1, e2, _, _, h, _⟩
  · simp only [List.cons.injEq] at e1 e2
    obtain rfl := trms_one hxs h1 e1.2
    obtain rfl := trms_one hys h2 e2.2
    exact ⟨n', e0, h3⟩
  · simp only [List.cons.injEq] at e1
    exact absurd (by rw [e1.1]; rfl) h3
  · simp only [List.cons.injEq] at e1
    exact absurd (by rw [e1.1]; rfl) h3
  · simp only [List.cons.injEq] at e1 e2
    exact absurd (by rw [← e2.1, e1.1]; exact h2) h
  · simp only [List.cons.injEq] at e1 e2
    exact absurd (by rw [← e2.1, e1.1]; exact h2) h
  · simp only [List.cons.injEq] at e1 e2
    exact absurd (e1.1.symm.trans e2.1) h
end Go.Proofs.Ytonpahhcfgdeoaa

/- A region that draws, within a fence that lets all through and in no round: walked as outside of one, if nothing in it is deferred. -/
namespace Go.Proofs.Ytonpahhcfgdeoaa
open Go.RowKit
set_option linter.unusedVariables false
set_option linter.unusedSimpArgs false

theorem upon_wide {n : Nat} {P : Program} {o : Oper} {a : Act} {K K' : Act → World → Prop} {Q : Exit → Act → World → Prop} (hK : ∀ a w, K a w → K' a w) (r : Result Next) (h : o.upon P a K (Quiet Q) r) : o.uponIn Fence.wide n P a K' Q r := by
  cases r with
  | ok nx w' =>
    cases nx with
    | value v => exact hK _ _ h
    | skip => exact hK _ _ h
    | defer d => exact hK _ _ h
    | enter f args =>
      refine And.intro (fun hd => absurd hd (by simp [Fence.wide])) ?_
      refine callsIn_wide.2 ?_
      refine Calls.mono h ?_
      intro e w'' he
      cases e with
      | returned v => exact hK _ _ he
      | panicked c => cases he.1
      | outgrown => exact (quiet_out he).elim
    | row row args =>
      refine And.intro (fun hd => absurd hd (by simp [Fence.wide])) ?_
      intro c cs _
      have hr : Rows P row args w' (fun v w'' => K (a.put o.dst v) w'') := h
      have hx := hr c cs
      rcases hx with ⟨v, w'', r, s⟩
      exact ⟨v, w'', hK _ _ r, stepsIn_wide.2 s⟩
    | _ => exact h.elim
  | halt x w' =>
    cases x with
    | panic v => cases h.1
    | _ => exact h.elim

theorem any_wide {n : Nat} {P : Program} {md : Region.Mode} {ops : Array Oper} {Q : Exit → Act → World → Prop} (hd : ∀ o ∈ ops, ∀ c, o.op ≠ .defer c) : ∀ (fuel : Nat) (listed : Array Bool) (a : Act) (w : World), wpAny P md ops (Quiet Q) fuel listed a w → wpAnyIn Fence.wide n P md ops Q fuel listed a w
  | 0, listed, a, w, h => ⟨h.1, h.2.2⟩
  | fuel + 1, listed, a, w, h => ⟨fun h0 => (h.1 h0).2, fun i hi => by
      have h2 := h.2 i hi
      unfold wpOp at h2
      unfold wpOpIn
      cases ho : ops[i]? with
      | none => rw [ho] at h2; exact any_wide hd fuel _ _ _ h2
      | some o =>
        rw [ho] at h2
        have hnd := hd o (Array.mem_of_getElem? ho)
        simp only at h2 ⊢
        split
        · rename_i hw
          rw [if_pos hw] at h2
          refine ⟨fun _ _ => trivial, ?_⟩
          rw [Oper.semAt_plain Fence.wide _ _ hnd]
          rcases h2 with h2 | ⟨_, h2⟩
          · exact upon_wide (fun a w h => any_wide hd fuel _ a w h) _ h2
          · exact (quiet_out h2).elim
        · rename_i hw
          rw [if_neg hw] at h2
          exact ⟨fun _ _ => trivial, any_wide hd fuel _ _ _ h2⟩⟩

/-- The beginning: a region within such a fence, under a condition on the world that the prover names. -/
theorem region_wide {n id : Nat} {P : Program} {ops : Array Oper} {Q : Exit → Act → World → Prop} {a : Act} {w : World} (S : World → Prop) (hm : P.follows .mixedOrders = true) (hd : ∀ o ∈ ops, ∀ c, o.op ≠ .defer c)
    (h : wpAnyH P .any ops (Quiet Q) S ops.size (Array.replicate ops.size false) a w.drew) : (Code.region id ops true).wpIn Fence.wide n P Q a w :=
  wpIn_region_any hm (any_wide hd _ _ _ _ (wpAny_of_held _ _ _ _ h))
end Go.Proofs.Ytonpahhcfgdeoaa

/- Where no variable leads to itself there is a rank; the walk of the specification's SubFull. -/
namespace Go.Proofs.Ytonpahhcfgdeoaa
open Go.RowKit
set_option linter.unusedVariables false
set_option linter.unusedSimpArgs false

theorem reach_kid {s : List B} {v u : Int} (h : varIn (getB s v) u) {x : Int} (hr : Reach s (getB s u) x) : Reach s (getB s v) x := by
  induction hr with
  | here h1 => exact .step (.here h) h1
  | step _ h2 ih => exact .step ih h2

theorem noRing_ranked {s : List B} (h : NoRing s) : ∃ ρ, Ranked s ρ := by
  classical
  refine ⟨fun v => ((s.map (·.v)).filter fun x => decide (Reach s (getB s v) x)).length, fun v u hu hb => ?_⟩
  obtain ⟨y, hy, e, _⟩ := getB_mem hb
  refine filter_lt (y := u) (List.mem_map.2 ⟨y, hy, e⟩) (by simpa using Reach.here hu) (by simpa using h u hb) (fun x _ hx => ?_)
  simp only [decide_eq_true_eq] at hx ⊢
  exact reach_kid hu hx

theorem allOk_once {s : List B} (h : AllOk s) : Once s := by
  have key : ∀ k, k ≤ s.length → ((s.take k).map (·.v)).Nodup := by
    intro k
    induction k with
    | zero => intro _; simp
    | succ k ih =>
      intro hk
      have hk' : k < s.length := by omega
      rw [List.take_succ_eq_append_getElem hk', List.map_append, List.nodup_append]
      refine ⟨ih (by omega), by simp, fun a ha b hb => ?_⟩
      simp at hb
      subst hb
      intro e
      subst e
      obtain ⟨x, hx, e⟩ := List.mem_map.1 ha
      obtain ⟨j, hj, rfl⟩ := List.getElem_of_mem hx
      have hj2 := hj
      rw [List.length_take] at hj2
      rw [List.getElem_take] at e
      exact (h k hk').2.2.2 j (by omega) (by omega) e
  have := key s.length (Nat.le_refl _)
  rwa [List.take_length] at this

theorem subOk_all {s : List B} (h : subOk s = true) : AllOk s := by
  unfold subOk at h
  exact @of_decide_eq_true _ (Classical.propDecidable _) h

/-- Bindings that SubOk finds ok are ok. -/
theorem subOk_okB {s : List B} (h : subOk s = true) : OkB s := by
  have ha := subOk_all h
  have ho := allOk_once ha
  refine ⟨ho, fun x hx => ?_, noRing_ranked (fun v hv hr => ?_)⟩
  · obtain ⟨k, hk, rfl⟩ := List.getElem_of_mem hx
    exact trm_Trm (ha k hk).2.1
  · obtain ⟨x, hx, e1, e2⟩ := getB_mem hv
    obtain ⟨k, hk, rfl⟩ := List.getElem_of_mem hx
    rw [← e2, ← e1] at hr
    exact (ha k hk).2.2.1 hr

/-- What SubFull is. -/
noncomputable def fullB (s : List B) (t : List C) : Option (List C) := if subOk s = true ∧ trm t = true then fullOk s t else none
def FOut (r : Option (List C)) (w : World) (e : Ending) (w' : World) : Prop := ∃ v, OwnC w' w.heap.size v (r.getD []) ∧ e = .returned (.tuple #[v, .bool r.isSome]) ∧ Below w.heap.size w w'

theorem fout_of {s : List B} {t t' : List C} {n : Nat} {w w' : World} {v : Value} {bb : Bool} (h1 : subOk s = true) (h2 : trm t = true) (hE : Exp s n t t') (ho : OwnC w' w.heap.size v (if t'.length ≤ 40 then t' else [])) (hbb : bb = decide (t'.length ≤ 40)) (hb : Below w.heap.size w w') : FOut (fullB s t) w (.returned (.tuple #[v, .bool bb])) w' := by
  have e : fullB s t = if t'.length ≤ 40 then some t' else none := by unfold fullB; rw [if_pos ⟨h1, h2⟩, fullOk_of hE]
  subst hbb
  refine ⟨v, ?_, ?_, hb⟩
  · rw [e]
    by_cases hl : t'.length ≤ 40
    · rw [if_pos hl] at ho ⊢; exact ho
    · rw [if_neg hl] at ho ⊢; exact ho
  · rw [e]
    by_cases hl : t'.length ≤ 40
    · simp [hl]
    · simp [hl]
theorem fout_no {s : List B} {t : List C} {w w' : World} {v : Value} (h : ¬ (subOk s = true ∧ trm t = true)) (ho : OwnC w' w.heap.size v []) (hb : Below w.heap.size w w') : FOut (fullB s t) w (.returned (.tuple #[v, .bool false])) w' := by
  have e : fullB s t = none := by unfold fullB; rw [if_neg h]
  exact ⟨v, by rw [e]; exact ho, by rw [e]; rfl, hb⟩

end Go.Proofs.Ytonpahhcfgdeoaa

/- The walk of the program's SubFull. -/
namespace Go.Proofs.Ytonpahhcfgdeoaa
open Go.RowKit Go.Maps
set_option linter.unusedVariables false
set_option linter.unusedSimpArgs false

theorem okB_okT {s : List B} (h : OkB s) : OkT s := fun v c hc => by
  by_cases h0 : getB s v = []
  · rw [h0] at hc; simp at hc
  · obtain ⟨x, hx, _, e⟩ := getB_mem h0
    rw [← e] at hc
    exact (h.term x hx).2 c hc

theorem gotT_at {n₀ : Nat} {w w' : World} {t : List C} {p : Nat} {z : List (Nat × C)} (hl : t.length ≤ 40) (e : z.map (·.2) = t) (h : Tre (fun b => w.heap.size ≤ b ∧ b < w'.heap.size) w' t.length p z) : TreeAt (fun b => w.heap.size ≤ b ∧ b < w'.heap.size) w' p t := ⟨z, tre_fuel h hl, e⟩

theorem row_cells' {w : World} {base : Nat} {v : Value} {t : List C} (h : OwnC w base v t) (hn : 0 < t.length) : ∃ g cap, v = .slice (some ⟨g, 0, none⟩) t.length cap ∧ t.length ≤ cap := by
  rcases h.2 with ⟨e, e'⟩ | ⟨g, cap, cur, e, _, _, hc, _⟩
  · omega
  · exact ⟨g, cap, e, hc⟩

end Go.Proofs.Ytonpahhcfgdeoaa
