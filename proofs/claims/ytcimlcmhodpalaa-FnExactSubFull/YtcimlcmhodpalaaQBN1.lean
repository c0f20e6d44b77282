/- The program's bindings while a call lasts: a struct of a list (variables and trees) and a map beside it (at which place of the list each variable is); what it holds. -/
import Derived.Test.YtcimlcmhodpalaaQSO1
import Derived.Test.YtcimlcmhodpalaaQPlain2T4
import Derived.Test.YtcimlcmhodpalaaQPB4
import Derived.Maps.Own
import Derived.Maps.OwnOps
import Derived.Maps.OwnSet
namespace Go.Proofs.Ytcimlcmhodpalaa
open Go.RowKit Go.Maps
set_option linter.unusedVariables false
set_option linter.unusedSimpArgs false

/-- A tree in blocks of S. -/
def TreeAt (S : Nat → Prop) (W : World) (p : Nat) (t : List C) : Prop := ∃ z, Tre S W 40 p z ∧ z.map (·.2) = t

theorem TreeAt.kept {S S' : Nat → Prop} {W W' : World} {p : Nat} {t : List C} (h : TreeAt S W p t) (hS : ∀ b, S b → S' b) (hk : ∀ b, S b → W'.heap[b]? = W.heap[b]?) : TreeAt S' W' p t := by
  obtain ⟨z, h1, h2⟩ := h
  exact ⟨z, h1.kept hS hk, h2⟩
theorem TreeAt.ne {S : Nat → Prop} {W : World} {p : Nat} {t : List C} (h : TreeAt S W p t) : t ≠ [] := by
  obtain ⟨z, ⟨c, ks, ao, cap, e, _⟩, rfl⟩ := h
  rw [e]; simp

/-- Pointers to trees. -/
def ptrs (rs : List Nat) : List Value := rs.map fun r => .pointer (some ⟨r, 0, none⟩)
theorem ptrs_length (rs : List Nat) : (ptrs rs).length = rs.length := by simp [ptrs]
theorem ptrs_get (rs : List Nat) (i : Nat) (h : i < rs.length) (h' : i < (ptrs rs).length) : (ptrs rs)[i] = .pointer (some ⟨rs[i], 0, none⟩) := by simp [ptrs]
theorem flatP_snoc (s : List B) (rs : List Nat) (y : B) (r : Nat) (hl : rs.length = s.length) : flatB (s ++ [y]) (ptrs (rs ++ [r])) = flatB s (ptrs rs) ++ [.int .i64 y.v, .pointer (some ⟨r, 0, none⟩)] := by
  rw [show ptrs (rs ++ [r]) = ptrs rs ++ ptrs [r] by simp [ptrs], flatB_append _ _ _ _ (by rw [ptrs_length, hl])]
  rfl

theorem getB_snoc : ∀ (s : List B) (y : B) (x : Int), getB (s ++ [y]) x = if x ∈ s.map (·.v) then getB s x else if y.v = x then y.t else []
  | [], y, x => by simp [getB]
  | z :: s, y, x => by
      have ih := getB_snoc s y x
      simp only [List.cons_append, getB, List.map_cons, List.mem_cons]
      by_cases e : z.v = x
      · simp [e]
      · have e' : ¬ (x = z.v) := fun h => e h.symm
        simp only [if_neg e, ih, e', false_or]
theorem getB_nil : ∀ {s : List B} {x : Int}, x ∉ s.map (·.v) → getB s x = []
  | [], x, _ => rfl
  | z :: s, x, h => by
      simp only [List.map_cons, List.mem_cons, not_or] at h
      simp only [getB, if_neg (fun e => h.1 (Eq.symm e))]
      exact getB_nil h.2

/-- The map says of each variable that is bound at which place of the list it is; of others it may say any place. -/
def TabL (s : List B) (D : DataW Unit) : Prop := Maps.IsMap D ∧ ∀ x : Int, ∃ k : Nat, D.atKey (.int .i64 x) (.lit (.int .i64 0)) = .lit (.int .i64 (k : Int)) ∧
  (x ∈ s.map (·.v) → Maps.has D (.int .i64 x) = true ∧ ∃ h : k < s.length, s[k].v = x ∧ getB s x = s[k].t)

theorem tabL_nil : TabL [] (.map [] : DataW Unit) := ⟨Maps.isMap_empty, fun x => ⟨0, rfl, fun h => by simp at h⟩⟩
theorem tabL_put {s : List B} {D : DataW Unit} {y : B} (h : TabL s D) (hy : y.v ∉ s.map (·.v)) : TabL (s ++ [y]) (D.put (.int .i64 y.v) (.lit (.int .i64 (s.length : Int)))) := by
  refine ⟨h.1.put _ _, fun x => ?_⟩
  by_cases e : x = y.v
  · subst e
    refine ⟨s.length, Maps.atKey_put_same h.1 (show WideAt.IsKeyLit (Lit.int .i64 y.v) from trivial) _ _, fun _ => ⟨Maps.has_put_same h.1 (show WideAt.IsKeyLit (Lit.int .i64 y.v) from trivial) _, by simp, ?_, ?_⟩⟩
    · simp
    · rw [getB_snoc, if_neg hy, if_pos rfl]; simp
  · have hne : (Lit.int .i64 x) ≠ (Lit.int .i64 y.v) := by intro h'; apply e; simpa using h'
    obtain ⟨k, hk, hm⟩ := h.2 x
    refine ⟨k, by rw [Maps.atKey_put_other hne, hk], fun hx => ?_⟩
    have hx' : x ∈ s.map (·.v) := by
      simp only [List.map_append, List.mem_append, List.map_cons, List.map_nil, List.mem_singleton] at hx
      exact hx.resolve_right e
    obtain ⟨h1, hl, h2, h3⟩ := hm hx'
    refine ⟨by rw [Maps.has_put_other hne, h1], by simp; omega, ?_, ?_⟩
    · rw [List.getElem_append_left hl]; exact h2
    · rw [getB_snoc, if_pos hx', List.getElem_append_left hl]; exact h3

/-- The struct at block P: the list ov, the map M. -/
def Strt (W : World) (P : Nat) (ov : Value) (M : Nat) : Prop := W.heap[P]? = some (.cells #[ov, .map (some M)] 91 (0, 0))
theorem Strt.lt {W : World} {P M : Nat} {ov : Value} (h : Strt W P ov M) : P < W.heap.size := (Array.getElem?_eq_some_iff.1 h).1
theorem Strt.cells {W : World} {P M : Nat} {ov : Value} (h : Strt W P ov M) : W.cell? ⟨P, 0, none⟩ = some ov ∧ W.cell? ⟨P, 1, none⟩ = some (.map (some M)) ∧ W.frozen? ⟨P, 0, none⟩ = false := by
  refine ⟨?_, ?_, ?_⟩ <;> simp [World.cell?, World.frozen?, show W.heap[P]? = _ from h]
theorem Strt.set {W : World} {P M : Nat} {ov : Value} (h : Strt W P ov M) (v' : Value) : Strt (W.setCell ⟨P, 0, none⟩ v') P v' M := by
  obtain ⟨hlt, hk⟩ := Array.getElem?_eq_some_iff.1 h
  show (W.heap.modify P _)[P]? = _
  rw [Array.getElem?_eq_getElem (by rw [Array.size_modify]; exact hlt), Array.getElem_modify_self, hk]
  rfl

/-- The list of what is bound. -/
def OwnL (W : World) (lo : Nat) (ov : Value) (s : List B) (rs : List Nat) : Prop := W.ownsRow lo 124 2 ov s.length (flatB s (ptrs rs)) ∧ rs.length = s.length

theorem OwnL.shape {W : World} {lo : Nat} {ov : Value} {s : List B} {rs : List Nat} (h : OwnL W lo ov s rs) : ∃ ao cap, ov = .slice ao s.length cap ∧ (s = [] ∨ ∃ g, ao = some ⟨g, 0, none⟩ ∧ ∀ i, (h : i < s.length) → (h' : i < rs.length) → W.cell? ⟨g, i * 2, none⟩ = some (.int .i64 s[i].v) ∧ W.cell? ⟨g, i * 2 + 1, none⟩ = some (.pointer (some ⟨rs[i], 0, none⟩))) := by
  obtain ⟨h, hl⟩ := h
  have hr := h
  rcases h.2 with ⟨rfl, hn⟩ | ⟨g, cap, cur, rfl, _⟩
  · have : s = [] := List.length_eq_zero_iff.1 hn
    subst this
    exact ⟨none, 0, rfl, .inl rfl⟩
  · refine ⟨_, cap, rfl, .inr ⟨g, rfl, fun i hi hi' => ?_⟩⟩
    have f := flatB_get s (ptrs rs) (by rw [ptrs_length, hl]) i hi (by rw [ptrs_length]; exact hi')
    have e0 := hr.cellAt (i * 2) (by omega)
    have e1 := hr.cellAt (i * 2 + 1) (by omega)
    refine ⟨e0.trans f.1, e1.trans ?_⟩
    rw [f.2, ptrs_get rs i hi']

/-- Bindings while a call lasts: the struct at P, its trees in blocks of S, which nothing of it touches. -/
def Bnd (lo : Nat) (W : World) (P : Nat) (S : Nat → Prop) (s : List B) : Prop :=
  ∃ ov M n D rs, Strt W P ov M ∧ lo ≤ P ∧ lo ≤ M ∧ OwnL W lo ov s rs ∧ W.ownsMap Try.prog 3 (plainElem Try.prog 3) M n D ∧ n ≤ s.length ∧ TabL s D ∧
    (∀ i, (h : i < s.length) → (h' : i < rs.length) → TreeAt S W rs[i] s[i].t) ∧ ∀ b, S b → lo ≤ b ∧ b < W.heap.size ∧ b ≠ P ∧ b ≠ M ∧ some b ≠ ov.ownBlock

theorem Bnd.lt {lo P : Nat} {W : World} {S : Nat → Prop} {s : List B} (h : Bnd lo W P S s) : P < W.heap.size := by obtain ⟨_, _, _, _, _, h, _⟩ := h; exact h.lt
theorem Bnd.lo {lo P : Nat} {W : World} {S : Nat → Prop} {s : List B} (h : Bnd lo W P S s) : lo ≤ P := by obtain ⟨_, _, _, _, _, _, h, _⟩ := h; exact h
theorem Bnd.trees {lo P : Nat} {W : World} {S : Nat → Prop} {s : List B} (h : Bnd lo W P S s) : ∀ b, S b → b < W.heap.size := by obtain ⟨_, _, _, _, _, _, _, _, _, _, _, _, _, h⟩ := h; exact fun b hb => (h b hb).2.1

theorem OwnL.below {W W' : World} {lo : Nat} {ov : Value} {s : List B} {rs : List Nat} (h : OwnL W lo ov s rs) (hb : Below W.heap.size W W') : OwnL W' lo ov s rs := ⟨own_below h.1 hb, h.2⟩

/-- What is new is touched by nothing of it. -/
theorem Bnd.below {lo P : Nat} {W W' : World} {S : Nat → Prop} {s : List B} (h : Bnd lo W P S s) (hb : Below W.heap.size W W') : Bnd lo W' P S s := by
  obtain ⟨ov, M, n, D, rs, h1, h2, h3, h4, h5, h6, h7, h9, h10⟩ := h
  exact ⟨ov, M, n, D, rs, (hb.block P h1.lt).trans h1, h2, h3, h4.below hb, h5.kept (row := none) ⟨hb.os, hb.tape, hb.output, hb.size, fun j hj _ => hb.block j hj⟩ (by simp), h6, h7,
    fun i hi hi' => (h9 i hi hi').kept (fun _ h => h) (fun b hb' => hb.block b (h10 b hb').2.1), fun b hb' => by have h := h10 b hb'; have := hb.size; exact ⟨by omega, by omega, h.2.2⟩⟩
theorem drew_below (W : World) : Below W.heap.size W W.drew := (Below.refl _ W).drew
theorem Bnd.drew {lo P : Nat} {W : World} {S : Nat → Prop} {s : List B} (h : Bnd lo W P S s) : Bnd lo W.drew P S s := h.below (drew_below W)

/-- Of each variable: where it leads. -/
theorem bound_at {S : Nat → Prop} {W : World} {s : List B} {rs : List Nat} {D : DataW Unit} (h7 : TabL s D) (hl : rs.length = s.length) (h9 : ∀ i, (h : i < s.length) → (h' : i < rs.length) → TreeAt S W rs[i] s[i].t) (x : Int) :
    ∃ k : Nat, D.atKey (.int .i64 x) (.lit (.int .i64 0)) = .lit (.int .i64 (k : Int)) ∧ ((getB s x = [] ∧ (Maps.has D (.int .i64 x) = true → ∀ h : k < s.length, s[k].v ≠ x)) ∨ (getB s x ≠ [] ∧ Maps.has D (.int .i64 x) = true ∧ ∃ (h : k < s.length) (h' : k < rs.length), s[k].v = x ∧ TreeAt S W rs[k] (getB s x))) := by
  obtain ⟨k, hk, hm⟩ := h7.2 x
  refine ⟨k, hk, ?_⟩
  by_cases hx : x ∈ s.map (·.v)
  · obtain ⟨h1, h2, h3, h4⟩ := hm hx
    have := h9 k h2 (by omega)
    exact .inr ⟨by rw [h4]; exact this.ne, h1, h2, by omega, h3, by rw [h4]; exact this⟩
  · refine .inl ⟨getB_nil hx, fun _ hl e => hx ?_⟩
    rw [← e]
    exact List.mem_map.2 ⟨_, List.getElem_mem hl, rfl⟩
end Go.Proofs.Ytcimlcmhodpalaa
