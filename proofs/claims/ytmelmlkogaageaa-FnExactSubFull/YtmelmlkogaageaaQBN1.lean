/- The program's bindings while a call lasts: a struct of a list and a map beside it; what it holds, and the walk of add. -/
import Derived.Test.YtmelmlkogaageaaQSO1
import Derived.Test.YtmelmlkogaageaaQPlain2T4
import Derived.Test.YtmelmlkogaageaaQPB4
import Derived.Maps.Own
import Derived.Maps.OwnOps
import Derived.Maps.OwnSet
namespace Go.Proofs.Ytmelmlkogaageaa
open Go.RowKit Go.Maps
set_option linter.unusedVariables false
set_option linter.unusedSimpArgs false

/-- How a pointer to a tree reads as a map's element: its block's number; nil: -1. -/
def ptrE : Value → Option (DataW Unit × List MemPlace)
  | .pointer none => some (.lit (.int .i64 (-1)), [])
  | .pointer (some ⟨p, 0, none⟩) => some (.lit (.int .i64 (p : Int)), [])
  | _ => none

theorem ptrE_inv {v : Value} {z : Int} {ps : List MemPlace} (h : ptrE v = some (.lit (.int .i64 z), ps)) : (z = -1 ∧ v = .pointer none) ∨ ∃ p : Nat, z = p ∧ v = .pointer (some ⟨p, 0, none⟩) := by
  unfold ptrE at h
  split at h
  · simp at h; exact .inl ⟨h.1.symm, rfl⟩
  · simp at h; exact .inr ⟨_, h.1.symm, rfl⟩
  · cases h

/-- A tree in blocks of S. -/
def TreeAt (S : Nat → Prop) (W : World) (p : Nat) (t : List C) : Prop := ∃ z, Tre S W 40 p z ∧ z.map (·.2) = t

theorem TreeAt.kept {S S' : Nat → Prop} {W W' : World} {p : Nat} {t : List C} (h : TreeAt S W p t) (hS : ∀ b, S b → S' b) (hk : ∀ b, S b → W'.heap[b]? = W.heap[b]?) : TreeAt S' W' p t := by
  obtain ⟨z, h1, h2⟩ := h
  exact ⟨z, h1.kept hS hk, h2⟩
theorem TreeAt.ne {S : Nat → Prop} {W : World} {p : Nat} {t : List C} (h : TreeAt S W p t) : t ≠ [] := by
  obtain ⟨z, ⟨c, ks, ao, cap, e, _⟩, rfl⟩ := h
  rw [e]; simp

/-- Where the first binding of a variable leads. -/
def root : List B → List Nat → Int → Int
  | y :: s, r :: rs, x => if y.v = x then (r : Int) else root s rs x
  | _, _, _ => -1

theorem root_spec {S : Nat → Prop} {W : World} : ∀ {s : List B} {rs : List Nat}, rs.length = s.length → (∀ i, (h : i < s.length) → (h' : i < rs.length) → TreeAt S W rs[i] s[i].t) → ∀ x, (getB s x = [] ∧ root s rs x = -1) ∨ (getB s x ≠ [] ∧ ∃ p : Nat, root s rs x = p ∧ TreeAt S W p (getB s x))
  | [], rs, _, _, x => .inl ⟨rfl, by cases rs <;> rfl⟩
  | y :: s, [], h, _, x => by simp at h
  | y :: s, r :: rs, h, ht, x => by
      by_cases e : y.v = x
      · have h0 := ht 0 (by simp) (by simp)
        simp at h0
        refine .inr ⟨by simp only [getB, if_pos e]; exact h0.ne, r, by simp [root, e], by simp only [getB, if_pos e]; exact h0⟩
      · have := root_spec (s := s) (rs := rs) (by simpa using h) (fun i hi hi' => by have := ht (i + 1) (by simpa using hi) (by simpa using hi'); simpa using this) x
        simp only [getB, root, if_neg e]
        exact this

theorem root_snoc : ∀ (s : List B) (rs : List Nat) (y : B) (r : Nat) (x : Int), rs.length = s.length → root (s ++ [y]) (rs ++ [r]) x = if x ∈ s.map (·.v) then root s rs x else if y.v = x then (r : Int) else -1
  | [], [], y, r, x, _ => by simp [root]
  | [], r :: rs, y, _, x, h => by simp at h
  | z :: s, [], y, r, x, h => by simp at h
  | z :: s, q :: rs, y, r, x, h => by
      have ih := root_snoc s rs y r x (by simpa using h)
      simp only [List.cons_append, root, List.map_cons, List.mem_cons]
      by_cases e : z.v = x
      · simp [e]
      · have e' : ¬ (x = z.v) := fun h => e h.symm
        simp only [if_neg e, ih, e', false_or]

/-- The map says of each variable where it leads. -/
def TabP (s : List B) (rs : List Nat) (D : DataW Unit) : Prop := Maps.IsMap D ∧ ∀ x : Int, D.atKey (.int .i64 x) (.lit (.int .i64 (-1))) = .lit (.int .i64 (root s rs x))

theorem tabP_nil : TabP [] [] (.map [] : DataW Unit) := ⟨Maps.isMap_empty, fun x => rfl⟩
theorem tabP_put {s : List B} {rs : List Nat} {D : DataW Unit} {y : B} {p : Nat} (h : TabP s rs D) (hl : rs.length = s.length) (hy : y.v ∉ s.map (·.v)) : TabP (s ++ [y]) (rs ++ [p]) (D.put (.int .i64 y.v) (.lit (.int .i64 (p : Int)))) := by
  refine ⟨h.1.put _ _, fun x => ?_⟩
  rw [root_snoc s rs y p x hl]
  by_cases e : x = y.v
  · subst e
    rw [Maps.atKey_put_same h.1 (show WideAt.IsKeyLit (Lit.int .i64 y.v) from trivial), if_neg hy, if_pos rfl]
  · rw [Maps.atKey_put_other (by intro h'; apply e; simpa using h'), h.2 x]
    split
    · rfl
    · rename_i hn
      rw [if_neg (fun h => e h.symm)]
      have : ∀ (s : List B) (rs : List Nat), x ∉ s.map (·.v) → root s rs x = -1 := by
        intro s
        induction s with
        | nil => intro rs _; cases rs <;> rfl
        | cons z s ih =>
          intro rs hn
          cases rs with
          | nil => rfl
          | cons q rs =>
            simp only [List.map_cons, List.mem_cons, not_or] at hn
            have hne : ¬ (z.v = x) := fun h => hn.1 h.symm
            simp only [root, if_neg hne]
            exact ih rs hn.2
      rw [this s rs hn]

theorem zeroPtr (w : World) : (zeroValue 80).run Try.prog w = .ok (.pointer none) w := by kernel_rfl

/-- The struct at block P: the list ov, the map M. -/
def Strt (W : World) (P : Nat) (ov : Value) (M : Nat) : Prop := W.heap[P]? = some (.cells #[ov, .map (some M)] 115 (0, 0))
theorem Strt.lt {W : World} {P M : Nat} {ov : Value} (h : Strt W P ov M) : P < W.heap.size := (Array.getElem?_eq_some_iff.1 h).1
theorem Strt.cells {W : World} {P M : Nat} {ov : Value} (h : Strt W P ov M) : W.cell? ⟨P, 0, none⟩ = some ov ∧ W.cell? ⟨P, 1, none⟩ = some (.map (some M)) ∧ W.frozen? ⟨P, 0, none⟩ = false := by
  refine ⟨?_, ?_, ?_⟩ <;> simp [World.cell?, World.frozen?, show W.heap[P]? = _ from h]
theorem Strt.set {W : World} {P M : Nat} {ov : Value} (h : Strt W P ov M) (v' : Value) : Strt (W.setCell ⟨P, 0, none⟩ v') P v' M := by
  obtain ⟨hlt, hk⟩ := Array.getElem?_eq_some_iff.1 h
  show (W.heap.modify P _)[P]? = _
  rw [Array.getElem?_eq_getElem (by rw [Array.size_modify]; exact hlt), Array.getElem_modify_self, hk]
  rfl

/-- Bindings while a call lasts: the struct at P, its trees in blocks of S, which nothing of it touches. -/
def Bnd (lo : Nat) (W : World) (P : Nat) (S : Nat → Prop) (s : List B) : Prop :=
  ∃ ov M n D rs, Strt W P ov M ∧ lo ≤ P ∧ lo ≤ M ∧ OwnI W lo ov (s.map (·.v)) ∧ W.ownsMap Try.prog 3 ptrE M n D ∧ n ≤ s.length ∧ TabP s rs D ∧ rs.length = s.length ∧
    (∀ i, (h : i < s.length) → (h' : i < rs.length) → TreeAt S W rs[i] s[i].t) ∧ ∀ b, S b → lo ≤ b ∧ b < W.heap.size ∧ b ≠ P ∧ b ≠ M ∧ some b ≠ ov.ownBlock

theorem Bnd.lt {lo P : Nat} {W : World} {S : Nat → Prop} {s : List B} (h : Bnd lo W P S s) : P < W.heap.size := by obtain ⟨_, _, _, _, _, h, _⟩ := h; exact h.lt
theorem Bnd.lo {lo P : Nat} {W : World} {S : Nat → Prop} {s : List B} (h : Bnd lo W P S s) : lo ≤ P := by obtain ⟨_, _, _, _, _, _, h, _⟩ := h; exact h

/-- What is new is touched by nothing of it. -/
theorem Bnd.below {lo P : Nat} {W W' : World} {S : Nat → Prop} {s : List B} (h : Bnd lo W P S s) (hb : Below W.heap.size W W') : Bnd lo W' P S s := by
  obtain ⟨ov, M, n, D, rs, h1, h2, h3, h4, h5, h6, h7, h8, h9, h10⟩ := h
  exact ⟨ov, M, n, D, rs, (hb.block P h1.lt).trans h1, h2, h3, h4.below hb, h5.kept (row := none) ⟨hb.os, hb.tape, hb.output, hb.size, fun j hj _ => hb.block j hj⟩ (by simp), h6, h7, h8,
    fun i hi hi' => (h9 i hi hi').kept (fun _ h => h) (fun b hb' => hb.block b (h10 b hb').2.1), fun b hb' => by have h := h10 b hb'; have := hb.size; exact ⟨by omega, by omega, h.2.2⟩⟩
theorem drew_below (W : World) : Below W.heap.size W W.drew := (Below.refl _ W).drew
theorem Bnd.drew {lo P : Nat} {W : World} {S : Nat → Prop} {s : List B} (h : Bnd lo W P S s) : Bnd lo W.drew P S s := h.below (drew_below W)

/-- More blocks may be trees' blocks. -/
theorem Bnd.wider {lo P : Nat} {W : World} {S S' : Nat → Prop} {s : List B} (h : Bnd lo W P S s) (hS : ∀ b, S b → S' b) (hn : ∀ b, S' b → S b ∨ (lo ≤ b ∧ b < W.heap.size ∧ b ≠ P ∧ (∀ (es : Array MapEntry) (c : Nat), W.heap[b]? ≠ some (.map es c)) ∧ ∀ v base n z, W.ownsRow base 3 1 v n z → some b ≠ v.ownBlock)) : Bnd lo W P S' s := by
  obtain ⟨ov, M, n, D, rs, h1, h2, h3, h4, h5, h6, h7, h8, h9, h10⟩ := h
  refine ⟨ov, M, n, D, rs, h1, h2, h3, h4, h5, h6, h7, h8, fun i hi hi' => (h9 i hi hi').kept hS (fun _ _ => rfl), fun b hb => ?_⟩
  rcases hn b hb with h | ⟨q1, q2, q3, q4, q5⟩
  · exact h10 b h
  · refine ⟨q1, q2, q3, fun e => ?_, q5 _ _ _ _ h4⟩
    obtain ⟨es, clock, hm, _⟩ := h5
    rw [← e] at hm
    exact q4 es clock hm

/-- What a variable leads to. -/
theorem Bnd.look {lo P : Nat} {W : World} {S : Nat → Prop} {s : List B} (h : Bnd lo W P S s) : ∃ ov M, Strt W P ov M ∧ OwnI W lo ov (s.map (·.v)) ∧ ∀ x : Int, (Lit.int .i64 x).wf = true → ∀ W' : World, W'.heap = W.heap → W'.os = W.os → W'.tape = W.tape → W'.output = W.output →
    ∃ v, (Instr.lookup 113 (.map (some M)) (.int .i64 x) false).run Try.prog W' = .ok v W' ∧ ((getB s x = [] ∧ v = .pointer none) ∨ (getB s x ≠ [] ∧ ∃ p, v = .pointer (some ⟨p, 0, none⟩) ∧ TreeAt S W p (getB s x))) := by
  obtain ⟨ov, M, n, D, rs, h1, h2, h3, h4, h5, h6, h7, h8, h9, h10⟩ := h
  refine ⟨ov, M, h1, h4, fun x hx W' e1 e2 e3 e4 => ?_⟩
  have h5' : W'.ownsMap Try.prog 3 ptrE M n D := by
    obtain ⟨es, clock, hm, r⟩ := h5
    exact ⟨es, clock, by rw [e1]; exact hm, r⟩
  obtain ⟨v, ps, hrun, hv⟩ := h5'.lookup (int_keyed Try.underlying3) Try.underlying113 (zeroPtr W') (zd := .lit (.int .i64 (-1))) (zp := []) rfl (keyOf_int_mk Try.underlying3 hx)
  rw [h7.2 x] at hv
  refine ⟨v, hrun, ?_⟩
  rcases root_spec h8 h9 x with ⟨q1, q2⟩ | ⟨q1, p, q2, q3⟩
  · rw [q2] at hv
    rcases ptrE_inv hv with ⟨_, e⟩ | ⟨p, e, _⟩
    · exact .inl ⟨q1, e⟩
    · omega
  · rw [q2] at hv
    rcases ptrE_inv hv with ⟨e, _⟩ | ⟨p', e, ev⟩
    · omega
    · have : p' = p := by omega
      subst this
      exact .inr ⟨q1, p', ev, q3⟩
end Go.Proofs.Ytmelmlkogaageaa
