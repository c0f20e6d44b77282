import Derived.Test.YtddhjafpacgdaaaQT6U4
import Derived.Test.YtddhjafpacgdaaaQW7W18T5BR1BG1
import Derived.Test.YtddhjafpacgdaaaQFL1
import Derived.Test.YtddhjafpacgdaaaQPB4
import Derived.Test.YtddhjafpacgdaaaQT3Plain2T4
import Derived.Test.YtddhjafpacgdaaaQFL7
/- One step of makeSame, as lists. -/
namespace Go.Proofs.Ytddhjafpacgdaaa
set_option linter.unusedVariables false
set_option linter.unusedSimpArgs false

theorem uni_var_left {n n1 n2 : Nat} {s sf : List B} {a b X Y : List C} {c d : C} {r : List (List C × List C)} {res : Option (List B)} (hU : Uni n s ((a, b) :: r) res sf) (hx : Now s n1 a (c :: X)) (hy : Now s n2 b (d :: Y)) (hc : c.k = 1) (hcd : c ≠ d) :
    X = [] ∧ ((¬ Reach s (d :: Y) c.n ∧ ∃ n', n = n' + 1 ∧ Uni n' (s ++ [⟨c.n, d :: Y⟩]) r res sf) ∨ (Reach s (d :: Y) c.n ∧ res = none)) := by
  rcases uni_cases hU hx hy with ⟨n', c', xs, ys, _, e1, e2, _⟩ | ⟨n', c', e0, e1, _, _, h3, h4⟩ | ⟨c', e1, _, _, h3, h4⟩ | ⟨n', c', _, _, _, ⟨d', q, e1, h⟩, _⟩ | ⟨c', _, _, ⟨d', q, e1, h⟩, _⟩ | ⟨c', d', q, q', e1, _, h, _⟩
  · simp only [List.cons.injEq] at e1 e2
    exact absurd (e1.1.trans e2.1.symm) hcd
  · simp only [List.cons.injEq] at e1
    obtain ⟨rfl, rfl⟩ := e1
    exact ⟨rfl, .inl ⟨h3, n', e0, h4⟩⟩
  · simp only [List.cons.injEq] at e1
    obtain ⟨rfl, rfl⟩ := e1
    exact ⟨rfl, .inr ⟨h3, h4⟩⟩
  · simp only [List.cons.injEq] at e1
    exact absurd (by rw [← e1.1]; exact hc) h
  · simp only [List.cons.injEq] at e1
    exact absurd (by rw [← e1.1]; exact hc) h
  · simp only [List.cons.injEq] at e1
    exact absurd (by rw [← e1.1]; exact hc) h

theorem uni_var_right {n n1 n2 : Nat} {s sf : List B} {a b X Y : List C} {c d : C} {r : List (List C × List C)} {res : Option (List B)} (hU : Uni n s ((a, b) :: r) res sf) (hx : Now s n1 a (c :: X)) (hy : Now s n2 b (d :: Y)) (hc : c.k ≠ 1) (hd : d.k = 1) :
    Y = [] ∧ ((¬ Reach s (c :: X) d.n ∧ ∃ n', n = n' + 1 ∧ Uni n' (s ++ [⟨d.n, c :: X⟩]) r res sf) ∨ (Reach s (c :: X) d.n ∧ res = none)) := by
  rcases uni_cases hU hx hy with ⟨n', c', xs, ys, _, e1, e2, _⟩ | ⟨n', c', e0, e1, h2, _, h3, h4⟩ | ⟨c', e1, h2, _, h3, h4⟩ | ⟨n', c', e0, e1, _, _, h3, h4⟩ | ⟨c', e1, _, _, h3, h4⟩ | ⟨c', d', q, q', _, e2, _, h, _⟩
  · simp only [List.cons.injEq] at e1 e2
    exact absurd (by rw [e1.1, ← e2.1]; exact hd) hc
  · simp only [List.cons.injEq] at e1
    exact absurd (by rw [e1.1]; exact h2) hc
  · simp only [List.cons.injEq] at e1
    exact absurd (by rw [e1.1]; exact h2) hc
  · simp only [List.cons.injEq] at e1
    obtain ⟨rfl, rfl⟩ := e1
    exact ⟨rfl, .inl ⟨h3, n', e0, h4⟩⟩
  · simp only [List.cons.injEq] at e1
    obtain ⟨rfl, rfl⟩ := e1
    exact ⟨rfl, .inr ⟨h3, h4⟩⟩
  · simp only [List.cons.injEq] at e2
    exact absurd (by rw [← e2.1]; exact hd) h

theorem uni_far {n n1 n2 : Nat} {s sf : List B} {a b X Y : List C} {c d : C} {r : List (List C × List C)} {res : Option (List B)} (hU : Uni n s ((a, b) :: r) res sf) (hx : Now s n1 a (c :: X)) (hy : Now s n2 b (d :: Y)) (hc : c.k ≠ 1) (hd : d.k ≠ 1) (hcd : c ≠ d) : res = none := by
  rcases uni_cases hU hx hy with ⟨n', c', xs, ys, _, e1, e2, _⟩ | ⟨n', c', e0, e1, h2, _⟩ | ⟨c', e1, h2, _⟩ | ⟨n', c', e0, e1, h2, _⟩ | ⟨c', e1, h2, _⟩ | ⟨c', d', q, q', _, _, _, _, _, h⟩
  · simp only [List.cons.injEq] at e1 e2
    exact absurd (e1.1.trans e2.1.symm) hcd
  · simp only [List.cons.injEq] at e1
    exact absurd (by rw [e1.1]; exact h2) hc
  · simp only [List.cons.injEq] at e1
    exact absurd (by rw [e1.1]; exact h2) hc
  · simp only [List.cons.injEq] at e1
    exact absurd (by rw [e1.1]; exact h2) hd
  · simp only [List.cons.injEq] at e1
    exact absurd (by rw [e1.1]; exact h2) hd
  · exact h

theorem trms_one {ks ks' : List (List C)} (h : ∀ k ∈ ks, Trm k) (h' : ∀ k ∈ ks', Trm k) (e : ks.flatten = ks'.flatten) : ks = ks' := by
  have up : ∀ (l : List (List C)), (∀ k ∈ l, Trm k) → ∃ f, ∀ k ∈ l, Tm f k := by
    intro l
    induction l with
    | nil => exact fun _ => ⟨0, fun k h => by simp at h⟩
    | cons x l ih =>
      intro hl
      obtain ⟨f, hf⟩ := ih (fun k hk => hl k (by simp [hk]))
      obtain ⟨g, hg⟩ := (hl x (by simp)).1
      refine ⟨max f g, fun k hk => ?_⟩
      rcases List.mem_cons.1 hk with rfl | hk
      · exact hg.mono (Nat.le_max_right _ _)
      · exact (hf k hk).mono (Nat.le_max_left _ _)
  obtain ⟨f, hf⟩ := up ks h
  obtain ⟨g, hg⟩ := up ks' h'
  exact trees_one (f := max f g) ks ks' (fun k hk => (hf k hk).mono (Nat.le_max_left _ _)) (fun k hk => (hg k hk).mono (Nat.le_max_right _ _)) e

theorem uni_same {n n1 n2 : Nat} {s sf : List B} {a b : List C} {xs ys : List (List C)} {c : C} {r : List (List C × List C)} {res : Option (List B)} (hU : Uni n s ((a, b) :: r) res sf) (hx : Now s n1 a (c :: xs.flatten)) (hy : Now s n2 b (c :: ys.flatten)) (hxs : ∀ k ∈ xs, Trm k) (hys : ∀ k ∈ ys, Trm k) :
    ∃ n', n = n' + 1 ∧ Uni n' s (xs.zip ys ++ r) res sf := by
  rcases uni_cases hU hx hy with ⟨n', c', xs', ys', e0, e1, e2, h1, h2, _, _, h3⟩ | ⟨n', c', e0, e1, h2, h3, _⟩ | ⟨c', e1, h2, h3, _⟩ | ⟨n', c', e0, e1, h2, ⟨d', q, e2, h⟩, _⟩ | ⟨c', e1, h2, ⟨d', q, e2, h⟩, _⟩ | ⟨c', d', q, q', e1, e2, _, _, h, _⟩
  · simp only [List.cons.injEq] at e1 e2
    obtain rfl := trms_one hxs h1 e1.2
    obtain rfl := trms_one hys h2 e2.2
    exact ⟨n', e0, h3⟩
  · simp only [List.cons.injEq] at e1
    exact absurd (by rw [e1.1]; rfl) h3
  · simp only [List.cons.injEq] at e1
    exact absurd (by rw [e1.1]; rfl) h3
  · simp only [List.cons.injEq] at e1 e2
    exact absurd (by rw [← e2.1, e1.1]; exact h2) h
  · simp only [List.cons.injEq] at e1 e2
    exact absurd (by rw [← e2.1, e1.1]; exact h2) h
  · simp only [List.cons.injEq] at e1 e2
    exact absurd (e1.1.symm.trans e2.1) h
end Go.Proofs.Ytddhjafpacgdaaa

/- A region that draws, within a fence that lets all through and in no round: walked as outside of one, if nothing in it is deferred. -/
namespace Go.Proofs.Ytddhjafpacgdaaa
open Go.RowKit
set_option linter.unusedVariables false
set_option linter.unusedSimpArgs false

theorem upon_wide {n : Nat} {P : Program} {o : Oper} {a : Act} {K K' : Act → World → Prop} {Q : Exit → Act → World → Prop} (hK : ∀ a w, K a w → K' a w) (r : Result Next) (h : o.upon P a K (Quiet Q) r) : o.uponIn Fence.wide n P a K' Q r := by
  cases r with
  | ok nx w' =>
    cases nx with
    | value v => exact hK _ _ h
    | skip => exact hK _ _ h
    | defer d => exact hK _ _ h
    | enter f args =>
      refine And.intro (fun hd => absurd hd (by simp [Fence.wide])) ?_
      refine callsIn_wide.2 ?_
      refine Calls.mono h ?_
      intro e w'' he
      cases e with
      | returned v => exact hK _ _ he
      | panicked c => cases he.1
      | outgrown => exact (quiet_out he).elim
    | row row args =>
      refine And.intro (fun hd => absurd hd (by simp [Fence.wide])) ?_
      intro c cs _
      have hr : Rows P row args w' (fun v w'' => K (a.put o.dst v) w'') := h
      have hx := hr c cs
      rcases hx with ⟨v, w'', r, s⟩
      exact ⟨v, w'', hK _ _ r, stepsIn_wide.2 s⟩
    | _ => exact h.elim
  | halt x w' =>
    cases x with
    | panic v => cases h.1
    | _ => exact h.elim

theorem any_wide {n : Nat} {P : Program} {md : Region.Mode} {ops : Array Oper} {Q : Exit → Act → World → Prop} (hd : ∀ o ∈ ops, ∀ c, o.op ≠ .defer c) : ∀ (fuel : Nat) (listed : Array Bool) (a : Act) (w : World), wpAny P md ops (Quiet Q) fuel listed a w → wpAnyIn Fence.wide n P md ops Q fuel listed a w
  | 0, listed, a, w, h => ⟨h.1, h.2.2⟩
  | fuel + 1, listed, a, w, h => ⟨fun h0 => (h.1 h0).2, fun i hi => by
      have h2 := h.2 i hi
      unfold wpOp at h2
      unfold wpOpIn
      cases ho : ops[i]? with
      | none => rw [ho] at h2; exact any_wide hd fuel _ _ _ h2
      | some o =>
        rw [ho] at h2
        have hnd := hd o (Array.mem_of_getElem? ho)
        simp only at h2 ⊢
        split
        · rename_i hw
          rw [if_pos hw] at h2
          refine ⟨fun _ _ => trivial, ?_⟩
          rw [Oper.semAt_plain Fence.wide _ _ hnd]
          rcases h2 with h2 | ⟨_, h2⟩
          · exact upon_wide (fun a w h => any_wide hd fuel _ a w h) _ h2
          · exact (quiet_out h2).elim
        · rename_i hw
          rw [if_neg hw] at h2
          exact ⟨fun _ _ => trivial, any_wide hd fuel _ _ _ h2⟩⟩

/-- The beginning: a region within such a fence, under a condition on the world that the prover names. -/
theorem region_wide {n id : Nat} {P : Program} {ops : Array Oper} {Q : Exit → Act → World → Prop} {a : Act} {w : World} (S : World → Prop) (hm : P.follows .mixedOrders = true) (hd : ∀ o ∈ ops, ∀ c, o.op ≠ .defer c)
    (h : wpAnyH P .any ops (Quiet Q) S ops.size (Array.replicate ops.size false) a w.drew) : (Code.region id ops true).wpIn Fence.wide n P Q a w :=
  wpIn_region_any hm (any_wide hd _ _ _ _ (wpAny_of_held _ _ _ _ h))
end Go.Proofs.Ytddhjafpacgdaaa

/- Where no variable leads to itself there is a rank; the walk of the specification's SubFull. -/
namespace Go.Proofs.Ytddhjafpacgdaaa
open Go.RowKit
set_option linter.unusedVariables false
set_option linter.unusedSimpArgs false

theorem reach_kid {s : List B} {v u : Int} (h : varIn (getB s v) u) {x : Int} (hr : Reach s (getB s u) x) : Reach s (getB s v) x := by
  induction hr with
  | here h1 => exact .step (.here h) h1
  | step _ h2 ih => exact .step ih h2

theorem noRing_ranked {s : List B} (h : NoRing s) : ∃ ρ, Ranked s ρ := by
  classical
  refine ⟨fun v => ((s.map (·.v)).filter fun x => decide (Reach s (getB s v) x)).length, fun v u hu hb => ?_⟩
  obtain ⟨y, hy, e, _⟩ := getB_mem hb
  refine filter_lt (y := u) (List.mem_map.2 ⟨y, hy, e⟩) (by simpa using Reach.here hu) (by simpa using h u hb) (fun x _ hx => ?_)
  simp only [decide_eq_true_eq] at hx ⊢
  exact reach_kid hu hx

theorem allOk_once {s : List B} (h : AllOk s) : Once s := by
  have key : ∀ k, k ≤ s.length → ((s.take k).map (·.v)).Nodup := by
    intro k
    induction k with
    | zero => intro _; simp
    | succ k ih =>
      intro hk
      have hk' : k < s.length := by omega
      rw [List.take_succ_eq_append_getElem hk', List.map_append, List.nodup_append]
      refine ⟨ih (by omega), by simp, fun a ha b hb => ?_⟩
      simp at hb
      subst hb
      intro e
      subst e
      obtain ⟨x, hx, e⟩ := List.mem_map.1 ha
      obtain ⟨j, hj, rfl⟩ := List.getElem_of_mem hx
      have hj2 := hj
      rw [List.length_take] at hj2
      rw [List.getElem_take] at e
      exact (h k hk').2.2.2 j (by omega) (by omega) e
  have := key s.length (Nat.le_refl _)
  rwa [List.take_length] at this

theorem subOk_all {s : List B} (h : subOk s = true) : AllOk s := by
  unfold subOk at h
  exact @of_decide_eq_true _ (Classical.propDecidable _) h

/-- Bindings that SubOk finds ok are ok. -/
theorem subOk_okB {s : List B} (h : subOk s = true) : OkB s := by
  have ha := subOk_all h
  have ho := allOk_once ha
  refine ⟨ho, fun x hx => ?_, noRing_ranked (fun v hv hr => ?_)⟩
  · obtain ⟨k, hk, rfl⟩ := List.getElem_of_mem hx
    exact trm_Trm (ha k hk).2.1
  · obtain ⟨x, hx, e1, e2⟩ := getB_mem hv
    obtain ⟨k, hk, rfl⟩ := List.getElem_of_mem hx
    rw [← e2, ← e1] at hr
    exact (ha k hk).2.2.1 hr

/-- What SubFull is. -/
noncomputable def fullB (s : List B) (t : List C) : Option (List C) := if subOk s = true ∧ trm t = true then fullOk s t else none
def FOut (r : Option (List C)) (w : World) (e : Ending) (w' : World) : Prop := ∃ v, OwnC w' w.heap.size v (r.getD []) ∧ e = .returned (.tuple #[v, .bool r.isSome]) ∧ Below w.heap.size w w'

theorem fout_of {s : List B} {t t' : List C} {n : Nat} {w w' : World} {v : Value} {bb : Bool} (h1 : subOk s = true) (h2 : trm t = true) (hE : Exp s n t t') (ho : OwnC w' w.heap.size v (if t'.length ≤ 40 then t' else [])) (hbb : bb = decide (t'.length ≤ 40)) (hb : Below w.heap.size w w') : FOut (fullB s t) w (.returned (.tuple #[v, .bool bb])) w' := by
  have e : fullB s t = if t'.length ≤ 40 then some t' else none := by unfold fullB; rw [if_pos ⟨h1, h2⟩, fullOk_of hE]
  subst hbb
  refine ⟨v, ?_, ?_, hb⟩
  · rw [e]
    by_cases hl : t'.length ≤ 40
    · rw [if_pos hl] at ho ⊢; exact ho
    · rw [if_neg hl] at ho ⊢; exact ho
  · rw [e]
    by_cases hl : t'.length ≤ 40
    · simp [hl]
    · simp [hl]
theorem fout_no {s : List B} {t : List C} {w w' : World} {v : Value} (h : ¬ (subOk s = true ∧ trm t = true)) (ho : OwnC w' w.heap.size v []) (hb : Below w.heap.size w w') : FOut (fullB s t) w (.returned (.tuple #[v, .bool false])) w' := by
  have e : fullB s t = none := by unfold fullB; rw [if_neg h]
  exact ⟨v, by rw [e]; exact ho, by rw [e]; rfl, hb⟩

set_option maxRecDepth 100000 in
set_option maxHeartbeats 2000000 in
theorem specSubFull_any (ao : Option Addr) (cap : Nat) (s : List B) (bo : Option Addr) (cp : Nat) (t : List C) (w : World) (hs : s.length ≤ 1048576) (hst : tot s ≤ 1048576) (htl : t.length ≤ maxLen) (hA : RowB w ao s) (hF : FitB s) (hT : Row w bo t) (hFt : Fit t) :
    Calls Try.prog 42 #[.slice ao s.length cap, .slice bo t.length cp] w (FOut (fullB s t) w) := by
  have H1 := hide (specSubOk_any ao cap s w hs hst hA hF)
  cases h1 : subOk s with
  | false =>
    rw [h1] at H1
    have HN : Hid (¬ (subOk s = true ∧ trm t = true)) := fun h => by rw [h1] at h; cases h.1
    clear h1
    go_enter Try.func42, Try.ntmps42
    go_wp2_with (go_at_call 39; refine (unhide H1).mono ?_; rintro e w1 ⟨rfl, hb1⟩)
    go_ret2
    exact fout_no (unhide HN) (World.ownsRow_made _ #[] 0 hb1.size (by simp [maxLen]) rfl) (bstep hb1 (cell_below _ _))
  | true =>
    rw [h1] at H1
    have H2 := hide (fun (w1 : World) (hb1 : Below w.heap.size w w1) => specTrmOk_any bo cp t w1 htl (hT.below hb1) hFt)
    cases h2 : trm t with
    | false =>
      rw [h2] at H2
      have HN : Hid (¬ (subOk s = true ∧ trm t = true)) := fun h => by rw [h2] at h; cases h.2
      clear h1 h2
      go_enter Try.func42, Try.ntmps42
      go_wp2_with (first | (go_at_call 39; refine (unhide H1).mono ?_; rintro e w1 ⟨rfl, hb1⟩) | (go_at_call 29; refine (unhide H2 _ hb1).mono ?_; rintro e w2 ⟨rfl, hb2⟩))
      go_ret2
      exact fout_no (unhide HN) (World.ownsRow_made _ #[] 0 (Nat.le_trans hb1.size hb2.size) (by simp [maxLen]) rfl) (bstep (bstep hb1 hb2) (cell_below _ _))
    | true =>
      rw [h2] at H2
      obtain ⟨ρ, hρ⟩ := (subOk_okB h1).rank
      obtain ⟨n, t', hE⟩ := exp_all hρ t
      have hl := trm_len h2
      obtain ⟨b, off, rfl, hAt⟩ : ∃ b off, bo = some ⟨b, off, none⟩ ∧ At w b off t := by
        rcases hT with h | h
        · rw [h] at hl; simp at hl
        · exact h
      have H3 := hide (fun (w1 : World) (hb1 : Below w.heap.size w w1) => l2Full_some ao cap s b off cp t t' n w1 hs hst hl.2 hl.1 hE (hA.below hb1) (hAt.below hb1))
      have HF := hide (fun (w' : World) (v : Value) (bb : Bool) => fout_of (w := w) (w' := w') (v := v) (bb := bb) h1 h2 hE)
      clear h1 h2 hE hAt hT hρ
      go_enter Try.func42, Try.ntmps42
      go_wp2_with (first | (go_at_call 39; refine (unhide H1).mono ?_; rintro e w1 ⟨rfl, hb1⟩) | (go_at_call 29; refine (unhide H2 _ hb1).mono ?_; rintro e w2 ⟨rfl, hb2⟩; have hb12 := bstep hb1 hb2) | (go_at_call 84; refine (unhide H3 _ hb12).mono ?_; rintro e w3 ⟨v3, hO3, rfl, hb3⟩))
      go_ret2
      exact unhide HF _ _ _ (OwnC.base hO3 hb12.size) rfl (bstep hb12 hb3)
end Go.Proofs.Ytddhjafpacgdaaa

/- The walk of the program's SubFull. -/
namespace Go.Proofs.Ytddhjafpacgdaaa
open Go.RowKit Go.Maps
set_option linter.unusedVariables false
set_option linter.unusedSimpArgs false

theorem okB_okT {s : List B} (h : OkB s) : OkT s := fun v c hc => by
  by_cases h0 : getB s v = []
  · rw [h0] at hc; simp at hc
  · obtain ⟨x, hx, _, e⟩ := getB_mem h0
    rw [← e] at hc
    exact (h.term x hx).2 c hc

theorem gotT_at {n₀ : Nat} {w w' : World} {t : List C} {p : Nat} {z : List (Nat × C)} (hl : t.length ≤ 40) (e : z.map (·.2) = t) (h : Tre (fun b => w.heap.size ≤ b ∧ b < w'.heap.size) w' t.length p z) : TreeAt (fun b => w.heap.size ≤ b ∧ b < w'.heap.size) w' p t := ⟨z, tre_fuel h hl, e⟩

theorem row_cells' {w : World} {base : Nat} {v : Value} {t : List C} (h : OwnC w base v t) (hn : 0 < t.length) : ∃ g cap, v = .slice (some ⟨g, 0, none⟩) t.length cap ∧ t.length ≤ cap := by
  rcases h.2 with ⟨e, e'⟩ | ⟨g, cap, cur, e, _, _, hc, _⟩
  · omega
  · exact ⟨g, cap, e, hc⟩

set_option maxRecDepth 100000 in
set_option maxHeartbeats 2000000 in
/-- The program's SubFull. -/
theorem implSubFull_any (ao : Option Addr) (cap : Nat) (s : List B) (bo : Option Addr) (cp : Nat) (t : List C) (w : World) (hs : s.length ≤ 1048576) (hst : tot s ≤ 1048576) (hcp : t.length ≤ cp) (hcm : cp ≤ maxLen) (hA : RowB w ao s) (hF : FitB s) (hT : Row w bo t) (hFt : Fit t) :
    Calls Try.prog 40 #[.slice ao s.length cap, .slice bo t.length cp] w (FOut (fullB s t) w) := by
  go_enter Try.func40, Try.ntmps40
  go_wp2_with fail
  refine (bindingsOf_any ao cap s _ hs hst hA hF).mono ?_
  rintro e W1 (⟨h1, P, S, rfl, hN, hb⟩ | ⟨h1, rfl, hb⟩)
  · cases h2 : trm t with
    | false =>
      have HN : Hid (¬ (subOk s = true ∧ trm t = true)) := fun h => by rw [h2] at h; cases h.2
      have H2 := hide (treeOf_no bo cp t W1 (Nat.le_trans hcp hcm) (hT.below hb) hFt h2)
      clear h1 h2 hN
      go_wp2_with fail
      refine (unhide H2).mono ?_
      clear H2
      rintro e W2 ⟨rfl, hb2⟩
      go_wp2
      go_ret2
      exact fout_no (unhide HN) (World.ownsRow_nil _ _ _ _) (bstep hb hb2)
    | true =>
      have hl := trm_len h2
      have H2 := hide (treeOf_yes 0 bo cp t W1 hcp hcm (Nat.zero_le _) (hT.below hb) hFt h2)
      have hO := subOk_okB h1
      obtain ⟨ρ, hρ⟩ := hO.rank
      obtain ⟨n, t', hE⟩ := exp_all hρ t
      have HFO := hide (fun (w' : World) (v : Value) (bb : Bool) => fout_of (w := w) (w' := w') (v := v) (bb := bb) h1 h2 hE)
      have htl := hE.len
      have HOK := hide (show ∀ c ∈ t, okC c = true from (trm_Trm h2).2)
      have HX := hide (⟨hO, hE⟩ : OkB s ∧ Exp s n t t')
      have hlo := hb.size
      clear h1 h2 hE hρ hO
      go_wp2_with fail
      refine (unhide H2).mono ?_
      clear H2
      rintro e W2 ⟨p, z, rfl, hz, hnd, hTr, hb2⟩
      have hN2 := hN.fresh hb2 hlo
      have hT2 := (gotT_at (n₀ := 0) hl.2 hz hTr).kept (S' := fun b => S b ∨ (W1.heap.size ≤ b ∧ b < W2.heap.size)) (fun b h => .inr h) (fun b h => rfl)
      have H3 := hide (full_any w.heap.size P p _ s t t' n W2 (by omega) hN2 (unhide HX).1 hT2 (unhide HOK) (okB_okT (unhide HX).1) (unhide HX).2)
      have hB2 := bstep hb hb2
      clear hN hN2 hT2 hTr hnd hz HX HOK
      go_wp2_with fail
      refine (unhide H3).mono ?_
      clear H3
      rintro e W3 ⟨v, rfl, hv, hvn, hb3⟩
      have hB3 := bstep hB2 hb3
      by_cases h40 : t'.length ≤ 40
      · have HV := hide hv
        rw [if_pos h40] at hv
        obtain ⟨g, cg, rfl, _⟩ := row_cells' hv (by omega)
        have hne := @run_neq_slice_nil_any Try.prog
        go_wp2
        go_ret2
        exact unhide HFO _ _ _ (OwnC.base (unhide HV) hB2.size) (by simp [h40]) hB3
      · have HV := hide hv
        have e := hvn h40
        subst e
        go_wp2
        go_ret2
        exact unhide HFO _ _ _ (OwnC.base (unhide HV) hB2.size) (by simp [h40]) hB3
  · have HN : Hid (¬ (subOk s = true ∧ trm t = true)) := fun h => by rw [h1] at h; cases h.1
    clear h1
    cases h2 : trm t with
    | false =>
      have H2 := hide (treeOf_no bo cp t W1 (Nat.le_trans hcp hcm) (hT.below hb) hFt h2)
      clear h2
      go_wp2_with fail
      refine (unhide H2).mono ?_
      clear H2
      rintro e W2 ⟨rfl, hb2⟩
      go_wp2
      go_ret2
      exact fout_no (unhide HN) (World.ownsRow_nil _ _ _ _) (bstep hb hb2)
    | true =>
      have H2 := hide (treeOf_yes 0 bo cp t W1 hcp hcm (Nat.zero_le _) (hT.below hb) hFt h2)
      clear h2
      go_wp2_with fail
      refine (unhide H2).mono ?_
      clear H2
      rintro e W2 ⟨p, z, rfl, hz, hnd, hTr, hb2⟩
      clear hz hnd hTr
      go_wp2
      go_ret2
      exact fout_no (unhide HN) (World.ownsRow_nil _ _ _ _) (bstep hb hb2)
end Go.Proofs.Ytddhjafpacgdaaa
