import Derived.Test.YtonpahhcfgdeoaaQD3D4SG1SL1SO1
import Derived.Test.YtonpahhcfgdeoaaQT3Plain2T4
import Derived.Test.YtonpahhcfgdeoaaQPB4W1
import Derived.Maps.Own
import Derived.Maps.OwnOps
import Derived.Maps.OwnSet
import Derived.Deep.AppendLies
/- The program's bindings while a call lasts: a struct of a list (variables and trees) and a map beside it (at which place of the list each variable is); what it holds. -/
namespace Go.Proofs.Ytonpahhcfgdeoaa
open Go.RowKit Go.Maps
set_option linter.unusedVariables false
set_option linter.unusedSimpArgs false

/-- A tree in blocks of S. -/
def TreeAt (S : Nat → Prop) (W : World) (p : Nat) (t : List C) : Prop := ∃ z, Tre S W 40 p z ∧ z.map (·.2) = t

theorem TreeAt.kept {S S' : Nat → Prop} {W W' : World} {p : Nat} {t : List C} (h : TreeAt S W p t) (hS : ∀ b, S b → S' b) (hk : ∀ b, S b → W'.heap[b]? = W.heap[b]?) : TreeAt S' W' p t := by
  obtain ⟨z, h1, h2⟩ := h
  exact ⟨z, h1.kept hS hk, h2⟩
theorem TreeAt.ne {S : Nat → Prop} {W : World} {p : Nat} {t : List C} (h : TreeAt S W p t) : t ≠ [] := by
  obtain ⟨z, ⟨c, ks, ao, cap, e, _⟩, rfl⟩ := h
  rw [e]; simp

/-- Pointers to trees. -/
def ptrs (rs : List Nat) : List Value := rs.map fun r => .pointer (some ⟨r, 0, none⟩)
theorem ptrs_length (rs : List Nat) : (ptrs rs).length = rs.length := by simp [ptrs]
theorem ptrs_get (rs : List Nat) (i : Nat) (h : i < rs.length) (h' : i < (ptrs rs).length) : (ptrs rs)[i] = .pointer (some ⟨rs[i], 0, none⟩) := by simp [ptrs]
theorem flatP_snoc (s : List B) (rs : List Nat) (y : B) (r : Nat) (hl : rs.length = s.length) : flatB (s ++ [y]) (ptrs (rs ++ [r])) = flatB s (ptrs rs) ++ [.int .i64 y.v, .pointer (some ⟨r, 0, none⟩)] := by
  rw [show ptrs (rs ++ [r]) = ptrs rs ++ ptrs [r] by simp [ptrs], flatB_append _ _ _ _ (by rw [ptrs_length, hl])]
  rfl

theorem getB_snoc : ∀ (s : List B) (y : B) (x : Int), getB (s ++ [y]) x = if x ∈ s.map (·.v) then getB s x else if y.v = x then y.t else []
  | [], y, x => by simp [getB]
  | z :: s, y, x => by
      have ih := getB_snoc s y x
      simp only [List.cons_append, getB, List.map_cons, List.mem_cons]
      by_cases e : z.v = x
      · simp [e]
      · have e' : ¬ (x = z.v) := fun h => e h.symm
        simp only [if_neg e, ih, e', false_or]
theorem getB_nil : ∀ {s : List B} {x : Int}, x ∉ s.map (·.v) → getB s x = []
  | [], x, _ => rfl
  | z :: s, x, h => by
      simp only [List.map_cons, List.mem_cons, not_or] at h
      simp only [getB, if_neg (fun e => h.1 (Eq.symm e))]
      exact getB_nil h.2

/-- The map says of each variable that is bound at which place of the list it is; of others it may say any place. -/
def TabL (s : List B) (D : DataW Unit) : Prop := Maps.IsMap D ∧ ∀ x : Int, ∃ k : Nat, D.atKey (.int .i64 x) (.lit (.int .i64 0)) = .lit (.int .i64 (k : Int)) ∧
  (x ∈ s.map (·.v) → Maps.has D (.int .i64 x) = true ∧ ∃ h : k < s.length, s[k].v = x ∧ getB s x = s[k].t)

theorem tabL_nil : TabL [] (.map [] : DataW Unit) := ⟨Maps.isMap_empty, fun x => ⟨0, rfl, fun h => by simp at h⟩⟩
theorem tabL_put {s : List B} {D : DataW Unit} {y : B} (h : TabL s D) (hy : y.v ∉ s.map (·.v)) : TabL (s ++ [y]) (D.put (.int .i64 y.v) (.lit (.int .i64 (s.length : Int)))) := by
  refine ⟨h.1.put _ _, fun x => ?_⟩
  by_cases e : x = y.v
  · subst e
    refine ⟨s.length, Maps.atKey_put_same h.1 (show WideAt.IsKeyLit (Lit.int .i64 y.v) from trivial) _ _, fun _ => ⟨Maps.has_put_same h.1 (show WideAt.IsKeyLit (Lit.int .i64 y.v) from trivial) _, by simp, ?_, ?_⟩⟩
    · simp
    · rw [getB_snoc, if_neg hy, if_pos rfl]; simp
  · have hne : (Lit.int .i64 x) ≠ (Lit.int .i64 y.v) := by intro h'; apply e; simpa using h'
    obtain ⟨k, hk, hm⟩ := h.2 x
    refine ⟨k, by rw [Maps.atKey_put_other hne, hk], fun hx => ?_⟩
    have hx' : x ∈ s.map (·.v) := by
      simp only [List.map_append, List.mem_append, List.map_cons, List.map_nil, List.mem_singleton] at hx
      exact hx.resolve_right e
    obtain ⟨h1, hl, h2, h3⟩ := hm hx'
    refine ⟨by rw [Maps.has_put_other hne, h1], by simp; omega, ?_, ?_⟩
    · rw [List.getElem_append_left hl]; exact h2
    · rw [getB_snoc, if_pos hx', List.getElem_append_left hl]; exact h3

/-- The struct at block P: the list ov, the map M. -/
def Strt (W : World) (P : Nat) (ov : Value) (M : Nat) : Prop := W.heap[P]? = some (.cells #[ov, .map (some M)] 132 (0, 0))
theorem Strt.lt {W : World} {P M : Nat} {ov : Value} (h : Strt W P ov M) : P < W.heap.size := (Array.getElem?_eq_some_iff.1 h).1
theorem Strt.cells {W : World} {P M : Nat} {ov : Value} (h : Strt W P ov M) : W.cell? ⟨P, 0, none⟩ = some ov ∧ W.cell? ⟨P, 1, none⟩ = some (.map (some M)) ∧ W.frozen? ⟨P, 0, none⟩ = false := by
  refine ⟨?_, ?_, ?_⟩ <;> simp [World.cell?, World.frozen?, show W.heap[P]? = _ from h]
theorem Strt.set {W : World} {P M : Nat} {ov : Value} (h : Strt W P ov M) (v' : Value) : Strt (W.setCell ⟨P, 0, none⟩ v') P v' M := by
  obtain ⟨hlt, hk⟩ := Array.getElem?_eq_some_iff.1 h
  show (W.heap.modify P _)[P]? = _
  rw [Array.getElem?_eq_getElem (by rw [Array.size_modify]; exact hlt), Array.getElem_modify_self, hk]
  rfl

/-- The list of what is bound. -/
def OwnL (W : World) (lo : Nat) (ov : Value) (s : List B) (rs : List Nat) : Prop := W.ownsRow lo 156 2 ov s.length (flatB s (ptrs rs)) ∧ rs.length = s.length

theorem OwnL.shape {W : World} {lo : Nat} {ov : Value} {s : List B} {rs : List Nat} (h : OwnL W lo ov s rs) : ∃ ao cap, ov = .slice ao s.length cap ∧ (s = [] ∨ ∃ g, ao = some ⟨g, 0, none⟩ ∧ ∀ i, (h : i < s.length) → (h' : i < rs.length) → W.cell? ⟨g, i * 2, none⟩ = some (.int .i64 s[i].v) ∧ W.cell? ⟨g, i * 2 + 1, none⟩ = some (.pointer (some ⟨rs[i], 0, none⟩))) := by
  obtain ⟨h, hl⟩ := h
  have hr := h
  rcases h.2 with ⟨rfl, hn⟩ | ⟨g, cap, cur, rfl, _⟩
  · have : s = [] := List.length_eq_zero_iff.1 hn
    subst this
    exact ⟨none, 0, rfl, .inl rfl⟩
  · refine ⟨_, cap, rfl, .inr ⟨g, rfl, fun i hi hi' => ?_⟩⟩
    have f := flatB_get s (ptrs rs) (by rw [ptrs_length, hl]) i hi (by rw [ptrs_length]; exact hi')
    have e0 := hr.cellAt (i * 2) (by omega)
    have e1 := hr.cellAt (i * 2 + 1) (by omega)
    refine ⟨e0.trans f.1, e1.trans ?_⟩
    rw [f.2, ptrs_get rs i hi']

/-- Bindings while a call lasts: the struct at P, its trees in blocks of S, which nothing of it touches. -/
def Bnd (lo : Nat) (W : World) (P : Nat) (S : Nat → Prop) (s : List B) : Prop :=
  ∃ ov M n D rs, Strt W P ov M ∧ lo ≤ P ∧ lo ≤ M ∧ OwnL W lo ov s rs ∧ W.ownsMap Try.prog 3 (plainElem Try.prog 3) M n D ∧ n ≤ s.length ∧ TabL s D ∧
    (∀ i, (h : i < s.length) → (h' : i < rs.length) → TreeAt S W rs[i] s[i].t) ∧ ∀ b, S b → lo ≤ b ∧ b < W.heap.size ∧ b ≠ P ∧ b ≠ M ∧ some b ≠ ov.ownBlock

theorem Bnd.lt {lo P : Nat} {W : World} {S : Nat → Prop} {s : List B} (h : Bnd lo W P S s) : P < W.heap.size := by obtain ⟨_, _, _, _, _, h, _⟩ := h; exact h.lt
theorem Bnd.lo {lo P : Nat} {W : World} {S : Nat → Prop} {s : List B} (h : Bnd lo W P S s) : lo ≤ P := by obtain ⟨_, _, _, _, _, _, h, _⟩ := h; exact h
theorem Bnd.trees {lo P : Nat} {W : World} {S : Nat → Prop} {s : List B} (h : Bnd lo W P S s) : ∀ b, S b → b < W.heap.size := by obtain ⟨_, _, _, _, _, _, _, _, _, _, _, _, _, h⟩ := h; exact fun b hb => (h b hb).2.1

theorem OwnL.below {W W' : World} {lo : Nat} {ov : Value} {s : List B} {rs : List Nat} (h : OwnL W lo ov s rs) (hb : Below W.heap.size W W') : OwnL W' lo ov s rs := ⟨own_below h.1 hb, h.2⟩

/-- What is new is touched by nothing of it. -/
theorem Bnd.below {lo P : Nat} {W W' : World} {S : Nat → Prop} {s : List B} (h : Bnd lo W P S s) (hb : Below W.heap.size W W') : Bnd lo W' P S s := by
  obtain ⟨ov, M, n, D, rs, h1, h2, h3, h4, h5, h6, h7, h9, h10⟩ := h
  exact ⟨ov, M, n, D, rs, (hb.block P h1.lt).trans h1, h2, h3, h4.below hb, h5.kept (row := none) ⟨hb.os, hb.tape, hb.output, hb.size, fun j hj _ => hb.block j hj⟩ (by simp), h6, h7,
    fun i hi hi' => (h9 i hi hi').kept (fun _ h => h) (fun b hb' => hb.block b (h10 b hb').2.1), fun b hb' => by have h := h10 b hb'; have := hb.size; exact ⟨by omega, by omega, h.2.2⟩⟩
theorem drew_below (W : World) : Below W.heap.size W W.drew := (Below.refl _ W).drew
theorem Bnd.drew {lo P : Nat} {W : World} {S : Nat → Prop} {s : List B} (h : Bnd lo W P S s) : Bnd lo W.drew P S s := h.below (drew_below W)

/-- Of each variable: where it leads. -/
theorem bound_at {S : Nat → Prop} {W : World} {s : List B} {rs : List Nat} {D : DataW Unit} (h7 : TabL s D) (hl : rs.length = s.length) (h9 : ∀ i, (h : i < s.length) → (h' : i < rs.length) → TreeAt S W rs[i] s[i].t) (x : Int) :
    ∃ k : Nat, D.atKey (.int .i64 x) (.lit (.int .i64 0)) = .lit (.int .i64 (k : Int)) ∧ ((getB s x = [] ∧ (Maps.has D (.int .i64 x) = true → ∀ h : k < s.length, s[k].v ≠ x)) ∨ (getB s x ≠ [] ∧ Maps.has D (.int .i64 x) = true ∧ ∃ (h : k < s.length) (h' : k < rs.length), s[k].v = x ∧ TreeAt S W rs[k] (getB s x))) := by
  obtain ⟨k, hk, hm⟩ := h7.2 x
  refine ⟨k, hk, ?_⟩
  by_cases hx : x ∈ s.map (·.v)
  · obtain ⟨h1, h2, h3, h4⟩ := hm hx
    have := h9 k h2 (by omega)
    exact .inr ⟨by rw [h4]; exact this.ne, h1, h2, by omega, h3, by rw [h4]; exact this⟩
  · refine .inl ⟨getB_nil hx, fun _ hl e => hx ?_⟩
    rw [← e]
    exact List.mem_map.2 ⟨_, List.getElem_mem hl, rfl⟩
end Go.Proofs.Ytonpahhcfgdeoaa

/- The walk of add. -/
namespace Go.Proofs.Ytonpahhcfgdeoaa
open Go.RowKit Go.Maps
set_option linter.unusedVariables false
set_option linter.unusedSimpArgs false

theorem Strt.not_row {W : World} {P M : Nat} {ov : Value} (h : Strt W P ov M) {base size k : Nat} {v : Value} {xs : List Value} (hr : W.ownsRow base 156 size v k xs) : some P ≠ v.ownBlock := by
  rcases hr.2 with ⟨rfl, _⟩ | ⟨g, cap, cur, rfl, _, hgb, _⟩
  · simp [Value.ownBlock]
  · intro e'
    obtain rfl : P = g := by simpa [Value.ownBlock] using e'
    have := (show W.heap[P]? = _ from h).symm.trans hgb
    simp at this
theorem map_not_row {W : World} {M n k : Nat} {R : Value → Option (DataW Unit × List MemPlace)} {D : DataW Unit} (h : W.ownsMap Try.prog k R M n D) {base e size k : Nat} {v : Value} {xs : List Value} (hr : W.ownsRow base e size v k xs) : some M ≠ v.ownBlock := by
  obtain ⟨es, clock, hm, _⟩ := h
  rcases hr.2 with ⟨rfl, _⟩ | ⟨g, cap, cur, rfl, _, hgb, _⟩
  · simp [Value.ownBlock]
  · intro e'
    obtain rfl : M = g := by simpa [Value.ownBlock] using e'
    rw [hm] at hgb
    cases hgb
theorem Strt.not_map {W : World} {P M M' n k : Nat} {R : Value → Option (DataW Unit × List MemPlace)} {ov : Value} {D : DataW Unit} (h : Strt W P ov M) (hm : W.ownsMap Try.prog k R M' n D) : P ≠ M' := by
  obtain ⟨es, clock, hm, _⟩ := hm
  intro e
  subst e
  have := (show W.heap[P]? = _ from h).symm.trans hm
  cases this

/-- What stands once the map has turned. -/
theorem add_mid {lo P M n : Nat} {W w1 : World} {ov : Value} {D : DataW Unit} {s : List B} {rs : List Nat} (h1 : Strt W P ov M) (h4 : OwnL W lo ov s rs) (h5 : W.ownsMap Try.prog 3 (plainElem Try.prog 3) M n D)
    (hg : W.grownBy w1 (some M)) : Strt w1 P ov M ∧ OwnL w1 lo ov s rs := by
  have hPM := h1.not_map h5
  refine ⟨(hg.block P h1.lt (by simpa using hPM)).trans h1, own_block h4.1 (fun k e => hg.block k (h4.1.lt k e).2 (fun e' => ?_)), h4.2⟩
  exact map_not_row h5 h4.1 (by rw [e]; exact e'.symm)

theorem bnd_add {lo P M n g' cap' p : Nat} {W w1 w2 : World} {S : Nat → Prop} {s : List B} {ov : Value} {D : DataW Unit} {rs : List Nat} {y : B} (h1 : Strt W P ov M) (h2 : lo ≤ P) (h3 : lo ≤ M) (h4 : OwnL W lo ov s rs) (h5 : W.ownsMap Try.prog 3 (plainElem Try.prog 3) M n D) (h6 : n ≤ s.length) (h7 : TabL s D)
    (h9 : ∀ i, (h : i < s.length) → (h' : i < rs.length) → TreeAt S W rs[i] s[i].t) (h10 : ∀ b, S b → lo ≤ b ∧ b < W.heap.size ∧ b ≠ P ∧ b ≠ M ∧ some b ≠ ov.ownBlock) (hlo : lo ≤ W.heap.size)
    (hy : y.v ∉ s.map (·.v)) (ht : TreeAt S W p y.t)
    (hmap : w1.ownsMap Try.prog 3 (plainElem Try.prog 3) M (n + 1) (D.put (.int .i64 y.v) (.lit (.int .i64 (s.length : Int)))))
    (hg1 : W.grownBy w1 (some M))
    (hown' : w2.ownsRow lo 156 2 (.slice (some ⟨g', 0, none⟩) (s.length + 1) cap') (s.length + 1) (flatB s (ptrs rs) ++ [.int .i64 y.v, .pointer (some ⟨p, 0, none⟩)]))
    (hgrow : (w1.alloc (.cells #[.int .i64 y.v, .pointer (some ⟨p, 0, none⟩)] 156)).grownBy w2 ov.ownBlock) (hat : ov.ownBlock = some g' ∨ g' = w1.heap.size + 1) :
    Bnd lo (w2.setCell ⟨P, 0, none⟩ (.slice (some ⟨g', 0, none⟩) (s.length + 1) cap')) P S (s ++ [y]) ∧ Below lo W (w2.setCell ⟨P, 0, none⟩ (.slice (some ⟨g', 0, none⟩) (s.length + 1) cap')) ∧ ∀ b, S b → (w2.setCell ⟨P, 0, none⟩ (.slice (some ⟨g', 0, none⟩) (s.length + 1) cap')).heap[b]? = W.heap[b]? := by
  obtain ⟨e1, e4⟩ := add_mid h1 h4 h5 hg1
  have hPM := h1.not_map h5
  have hs0 := hg1.size
  have hs1 := hgrow.size
  simp at hs1
  have hl4 := h4.2
  have keep : ∀ b, S b → (w2.setCell ⟨P, 0, none⟩ (.slice (some ⟨g', 0, none⟩) (s.length + 1) cap')).heap[b]? = W.heap[b]? := fun b hb => by
    obtain ⟨q1, q2, q3, q4, q5⟩ := h10 b hb
    exact (Below.heap_setCell _ _ _ b q3).trans ((hgrow.block b (by simp; omega) q5).trans ((Below.heap_alloc w1 _ b (by omega)).trans (hg1.block b q2 (by simpa using q4))))
  have hne : g' ≠ P := by
    rcases hat with h | h
    · intro e; subst e; exact e1.not_row e4.1 h.symm
    · have := e1.lt; omega
  have hneM : g' ≠ M := by
    have := hmap.lt
    rcases hat with h | h
    · intro e; subst e; exact map_not_row hmap e4.1 h.symm
    · omega
  have e2 : Strt w2 P ov M := (hgrow.block P (by have := e1.lt; simp; omega) (e1.not_row e4.1)).trans ((Below.heap_alloc w1 _ P e1.lt).trans e1)
  have e3 := e2.set (.slice (some ⟨g', 0, none⟩) (s.length + 1) cap')
  have e5 := World.ownsMap.setCell ((World.ownsMap.alloc hmap (.cells #[.int .i64 y.v, .pointer (some ⟨p, 0, none⟩)] 156)).kept hgrow (map_not_row hmap e4.1)) (a := ⟨P, 0, none⟩) (fun e => hPM e.symm) (.slice (some ⟨g', 0, none⟩) (s.length + 1) cap')
  refine ⟨⟨_, M, n + 1, _, rs ++ [p], e3, h2, h3, ⟨?_, by simp [hl4]⟩, e5, by simp; omega, tabL_put h7 hy, fun i hi hi' => ?_, fun b hb => ?_⟩, ?_, keep⟩
  · rw [flatP_snoc s rs y p hl4, show (s ++ [y]).length = s.length + 1 by simp]
    refine own_block hown' (fun k e => ?_)
    have e' : g' = k := by simpa [Value.ownBlock] using e
    subst e'
    exact Below.heap_setCell _ _ _ g' hne
  · have hk : TreeAt S (w2.setCell ⟨P, 0, none⟩ (.slice (some ⟨g', 0, none⟩) (s.length + 1) cap')) p y.t := ht.kept (fun _ h => h) keep
    by_cases hl : i < s.length
    · have hl' : i < rs.length := by omega
      rw [List.getElem_append_left hl, List.getElem_append_left hl']
      exact (h9 i hl hl').kept (fun _ h => h) keep
    · have e : i = s.length := by simp at hi; omega
      have e' : i = rs.length := by omega
      subst e
      rw [List.getElem_append_right (Nat.le_refl _)]
      simp only [hl4, Nat.sub_self, List.getElem_cons_zero]
      rw [List.getElem_append_right (by omega)]
      simp only [hl4, Nat.sub_self, List.getElem_cons_zero]
      exact hk
  · obtain ⟨q1, q2, q3, q4, q5⟩ := h10 b hb
    refine ⟨q1, by simp; omega, q3, q4, fun e => ?_⟩
    have e' : b = g' := by simpa [Value.ownBlock] using e
    rcases hat with h | h
    · exact q5 (by rw [h, e'])
    · omega
  · refine (((((Below.refl lo W).grown hg1 (by omega) (fun k e => by cases e; exact h3)).alloc (by omega) _).grown hgrow (by simp; omega) (fun k e => (h4.1.lt k e).1)).setCell (p := ⟨P, 0, none⟩) h2 _)

/-- What add leaves. -/
def Added (lo : Nat) (w : World) (P : Nat) (S : Nat → Prop) (s : List B) (w' : World) : Prop := Bnd lo w' P S s ∧ Below lo w w' ∧ ∀ b, S b → w'.heap[b]? = w.heap[b]?

theorem Try.infoBound : (Try.prog.info? 156).map (fun i => (i.zero, i.size, i.bytes)) = some (some (.agg #[.int .i64 0, .pointer none]), 2, 16) := by kernel_rfl

theorem two_cells (w : World) (x y : Value) (T N : Nat) (hN : w.heap.size = N) : ∀ j u, [x, y][j]? = some u → (w.alloc (.cells #[x, y] T)).cell? ((⟨N, 0, none⟩ : Addr).add j) = some u := by
  subst hN
  intro j u h
  match j with
  | 0 => simp at h; subst h; simp [go_sem, Addr.add]
  | 1 => simp at h; subst h; simp [go_sem, Addr.add]
  | j + 2 => simp at h

theorem ownsMap_drew {w : World} {k M n : Nat} {R : Value → Option (DataW Unit × List MemPlace)} {D : DataW Unit} (h : w.ownsMap Try.prog k R M n D) : w.drew.ownsMap Try.prog k R M n D := by
  obtain ⟨es, clock, hm, r⟩ := h
  exact ⟨es, clock, hm, r⟩

set_option maxRecDepth 100000 in
set_option maxHeartbeats 2000000 in
theorem add_any (lo P p : Nat) (S : Nat → Prop) (s : List B) (y : B) (w : World) (hs : s.length ≤ 4194304) (hB : Bnd lo w P S s) (hlo : lo ≤ w.heap.size) (hy : y.v ∉ s.map (·.v)) (hw : (Lit.int .i64 y.v).wf = true) (ht : TreeAt S w p y.t) :
    Calls Try.prog 97 #[.pointer (some ⟨P, 0, none⟩), .int .i64 y.v, .pointer (some ⟨p, 0, none⟩)] w fun e w' => (∃ v, e = .returned v) ∧ Added lo w P S (s ++ [y]) w' := by
  have hBd := hB.drew
  have htd : TreeAt S w.drew p y.t := ht.kept (fun _ h => h) (fun _ _ => rfl)
  obtain ⟨ov, M, n, D, rs, h1, h2, h3, h4, h5, h6, h7, h9, h10⟩ := hBd
  obtain ⟨i0, hi, hz0, hz1, hz2⟩ := info_parts Try.infoBound
  obtain ⟨c0, c1, f0⟩ := h1.cells
  have c0' : w.cell? ⟨P, 0, none⟩ = some ov := c0
  have c1' : w.cell? ⟨P, 1, none⟩ = some (.map (some M)) := c1
  have hPl := h1.lt
  have hn : n < maxLen := by unfold maxLen; omega
  have hwl : (Lit.int .i64 (s.length : Int)).wf = true := WalkArith.wf_i64 (by omega)
  obtain ⟨w1, hrun, hmap, hg1⟩ := h5.update (int_keyed Try.underlying3) (t := 127) (e := 3) Try.underlying127 hn (keyOf_int_mk Try.underlying3 hw) (plainElem_int Try.underlying3 hwl)
  obtain ⟨e1, e4⟩ := add_mid h1 h4 h5 hg1
  obtain ⟨d0, d1, d2⟩ := e1.cells
  have hPl1 := e1.lt
  have hs1 := hg1.size
  have HADD := hide (fun (w2 : World) (g' cap' : Nat) => bnd_add (w2 := w2) (g' := g') (cap' := cap') h1 h2 h3 h4 h5 h6 h7 h9 h10 hlo hy htd hmap hg1)
  have HB0 := hide (drew_below w)
  obtain ⟨ao, cap, rfl, _⟩ := h4.shape
  clear h7 h9 h10 h6 h4 h5 hmap hB
  go_enter Try.func97, Try.ntmps97
  go_wp2
  go_region
  go_wp2_with (at_builtin; refine wpList_append_lies _ rfl _ _ 130 rfl lo 156 i0 _ 2 16 Try.underlying130 hi hz0 hz1 hz2 rfl (by decide) _ s.length _ rfl (World.ownsRow.alloc e4.1 _) ⟨w1.heap.size, 0, none⟩ 1 1 [.int .i64 y.v, .pointer (some ⟨p, 0, none⟩)] rfl rfl (two_cells w1 _ _ _ _ rfl) (by simp [Value.oneCell']) (by omega) (by unfold maxLen; omega) (by omega) (by simp; omega) (w1.heap.size + 1) (by simp) ?_; intro g' cap' w2 hown' hgrow hat hgl'; have e2 : Strt w2 P (.slice ao s.length cap) M := (hgrow.block P (by simp; omega) (e1.not_row e4.1)).trans ((Below.heap_alloc w1 _ P e1.lt).trans e1); obtain ⟨r0, r1, r2⟩ := e2.cells)
  go_end0
  obtain ⟨a1, a2, a3⟩ := unhide HADD w2 g' cap' hown' hgrow hat
  exact ⟨⟨_, rfl⟩, a1, ((Below.refl lo w).drew).trans a2, a3⟩
end Go.Proofs.Ytonpahhcfgdeoaa
