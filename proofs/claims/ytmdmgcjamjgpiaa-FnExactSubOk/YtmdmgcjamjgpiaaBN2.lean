/- The walk of add. -/
import Derived.Test.YtmdmgcjamjgpiaaBN1
import Derived.Deep.AppendLies
namespace Go.Proofs.Ytmdmgcjamjgpiaa
open Go.RowKit Go.Maps
set_option linter.unusedVariables false
set_option linter.unusedSimpArgs false

theorem Strt.not_row {W : World} {P M : Nat} {ov : Value} (h : Strt W P ov M) {base size k : Nat} {v : Value} {xs : List Value} (hr : W.ownsRow base 3 size v k xs) : some P ≠ v.ownBlock := by
  rcases hr.2 with ⟨rfl, _⟩ | ⟨g, cap, cur, rfl, _, hgb, _⟩
  · simp [Value.ownBlock]
  · intro e'
    obtain rfl : P = g := by simpa [Value.ownBlock] using e'
    have := (show W.heap[P]? = _ from h).symm.trans hgb
    simp at this
theorem map_not_row {W : World} {M n : Nat} {D : DataW Unit} (h : W.ownsMap Try.prog 3 ptrE M n D) {base e size k : Nat} {v : Value} {xs : List Value} (hr : W.ownsRow base e size v k xs) : some M ≠ v.ownBlock := by
  obtain ⟨es, clock, hm, _⟩ := h
  rcases hr.2 with ⟨rfl, _⟩ | ⟨g, cap, cur, rfl, _, hgb, _⟩
  · simp [Value.ownBlock]
  · intro e'
    obtain rfl : M = g := by simpa [Value.ownBlock] using e'
    rw [hm] at hgb
    cases hgb
theorem Strt.not_map {W : World} {P M M' n : Nat} {ov : Value} {D : DataW Unit} (h : Strt W P ov M) (hm : W.ownsMap Try.prog 3 ptrE M' n D) : P ≠ M' := by
  obtain ⟨es, clock, hm, _⟩ := hm
  intro e
  subst e
  have := (show W.heap[P]? = _ from h).symm.trans hm
  cases this

/-- What stands while add appends. -/
theorem add_mid {lo P M n g' cap' : Nat} {W w1 : World} {ov : Value} {D : DataW Unit} {x : Int} {z : List Int} (h1 : Strt W P ov M) (h4 : OwnI W lo ov z) (h5 : W.ownsMap Try.prog 3 ptrE M n D)
    (hgrow : (W.alloc (.cells #[.int .i64 x] 3)).grownBy w1 ov.ownBlock) : Strt w1 P ov M ∧ (w1.setCell ⟨P, 0, none⟩ (.slice (some ⟨g', 0, none⟩) (z.length + 1) cap')).ownsMap Try.prog 3 ptrE M n D ∧
      Strt (w1.setCell ⟨P, 0, none⟩ (.slice (some ⟨g', 0, none⟩) (z.length + 1) cap')) P (.slice (some ⟨g', 0, none⟩) (z.length + 1) cap') M := by
  have e1 : Strt w1 P ov M := (hgrow.block P (by have := h1.lt; simp; omega) (h1.not_row h4)).trans ((Below.heap_alloc W _ P h1.lt).trans h1)
  have e2 := (World.ownsMap.alloc h5 (.cells #[.int .i64 x] 3)).kept hgrow (map_not_row h5 h4)
  exact ⟨e1, World.ownsMap.setCell e2 (a := ⟨P, 0, none⟩) (fun e => h1.not_map h5 e.symm) _, e1.set _⟩

theorem bnd_add {lo P M n g' cap' p : Nat} {W w1 w3 : World} {S : Nat → Prop} {s : List B} {ov : Value} {D : DataW Unit} {rs : List Nat} {y : B} (h1 : Strt W P ov M) (h2 : lo ≤ P) (h3 : lo ≤ M) (h4 : OwnI W lo ov (s.map (·.v))) (h5 : W.ownsMap Try.prog 3 ptrE M n D) (h6 : n ≤ s.length) (h7 : TabP s rs D) (h8 : rs.length = s.length)
    (h9 : ∀ i, (h : i < s.length) → (h' : i < rs.length) → TreeAt S W rs[i] s[i].t) (h10 : ∀ b, S b → lo ≤ b ∧ b < W.heap.size ∧ b ≠ P ∧ b ≠ M ∧ some b ≠ ov.ownBlock) (hlo : lo ≤ W.heap.size)
    (hy : y.v ∉ s.map (·.v)) (ht : TreeAt S W p y.t)
    (hown' : w1.ownsRow lo 3 1 (.slice (some ⟨g', 0, none⟩) ((s.map (·.v)).length + 1) cap') ((s.map (·.v)).length + 1) (nums (s.map (·.v)) ++ [.int .i64 y.v]))
    (hgrow : (W.alloc (.cells #[.int .i64 y.v] 3)).grownBy w1 ov.ownBlock) (hat : ov.ownBlock = some g' ∨ g' = W.heap.size + 1)
    (hmap : w3.ownsMap Try.prog 3 ptrE M (n + 1) (D.put (.int .i64 y.v) (.lit (.int .i64 (p : Int)))))
    (hg3 : (w1.setCell ⟨P, 0, none⟩ (.slice (some ⟨g', 0, none⟩) ((s.map (·.v)).length + 1) cap')).grownBy w3 (some M)) :
    Bnd lo w3 P S (s ++ [y]) ∧ Below lo W w3 ∧ ∀ b, S b → w3.heap[b]? = W.heap[b]? := by
  obtain ⟨e1, e2, e3⟩ := add_mid (g' := g') (cap' := cap') h1 h4 h5 hgrow
  have hPM := h1.not_map h5
  have hs1 := hgrow.size
  simp at hs1
  have hs3 := hg3.size
  simp at hs3
  have keep : ∀ b, S b → w3.heap[b]? = W.heap[b]? := fun b hb => by
    obtain ⟨q1, q2, q3, q4, q5⟩ := h10 b hb
    exact (hg3.block b (by simp; omega) (by simpa using q4)).trans ((Below.heap_setCell _ _ _ b q3).trans ((hgrow.block b (by simp; omega) q5).trans (Below.heap_alloc W _ b q2)))
  have hne : g' ≠ P := by
    rcases hat with h | h
    · intro e; subst e; exact h1.not_row h4 h.symm
    · have := h1.lt; omega
  have hneM : g' ≠ M := by
    have := h5.lt
    rcases hat with h | h
    · intro e; subst e; exact map_not_row h5 h4 h.symm
    · omega
  refine ⟨⟨_, M, n + 1, _, rs ++ [p], (hg3.block P (by simp; have := e1.lt; omega) (by simpa using hPM)).trans e3, h2, h3, ?_, hmap, by simp; omega, tabP_put h7 h8 hy, by simp [h8], fun i hi hi' => ?_, fun b hb => ?_⟩, ?_, keep⟩
  · unfold OwnI
    rw [List.map_append, show nums (s.map (·.v) ++ [y].map (·.v)) = nums (s.map (·.v)) ++ [.int .i64 y.v] by simp [nums], show (s.map (·.v) ++ [y].map (·.v)).length = (s.map (·.v)).length + 1 by simp]
    refine own_block hown' (fun k e => ?_)
    have e' : g' = k := by simpa [Value.ownBlock] using e
    subst e'
    have hgl := (hown'.lt g' rfl).2
    exact (hg3.block g' (by simp; omega) (by simpa using hneM)).trans (Below.heap_setCell _ _ _ g' hne)
  · have hk : TreeAt S w3 p y.t := ht.kept (fun _ h => h) keep
    by_cases hl : i < s.length
    · have hl' : i < rs.length := by omega
      rw [List.getElem_append_left hl, List.getElem_append_left hl']
      exact (h9 i hl hl').kept (fun _ h => h) keep
    · have e : i = s.length := by simp at hi; omega
      have e' : i = rs.length := by omega
      subst e
      rw [List.getElem_append_right (Nat.le_refl _)]
      simp only [h8, Nat.sub_self, List.getElem_cons_zero]
      rw [List.getElem_append_right (by omega)]
      simp only [h8, Nat.sub_self, List.getElem_cons_zero]
      exact hk
  · obtain ⟨q1, q2, q3, q4, q5⟩ := h10 b hb
    refine ⟨q1, by omega, q3, q4, fun e => ?_⟩
    have e' : b = g' := by simpa [Value.ownBlock] using e
    rcases hat with h | h
    · exact q5 (by rw [h, e'])
    · omega
  · refine ((((Below.refl lo W).alloc hlo _).grown hgrow (by simp; omega) (fun k e => (h4.lt k e).1)).setCell (p := ⟨P, 0, none⟩) h2 _).grown hg3 (by simp; omega) (fun k e => by cases e; exact h3)

/-- What add leaves. -/
def Added (lo : Nat) (w : World) (P : Nat) (S : Nat → Prop) (s : List B) (w' : World) : Prop := Bnd lo w' P S s ∧ Below lo w w' ∧ ∀ b, S b → w'.heap[b]? = w.heap[b]?

set_option maxRecDepth 100000 in
set_option maxHeartbeats 2000000 in
theorem add_any (lo P p : Nat) (S : Nat → Prop) (s : List B) (y : B) (w : World) (hs : s.length ≤ 4194304) (hB : Bnd lo w P S s) (hlo : lo ≤ w.heap.size) (hy : y.v ∉ s.map (·.v)) (hw : (Lit.int .i64 y.v).wf = true) (ht : TreeAt S w p y.t) :
    Calls Try.prog 92 #[.pointer (some ⟨P, 0, none⟩), .int .i64 y.v, .pointer (some ⟨p, 0, none⟩)] w fun e w' => (∃ v, e = .returned v) ∧ Added lo w P S (s ++ [y]) w' := by
  obtain ⟨ov, M, n, D, rs, h1, h2, h3, h4, h5, h6, h7, h8, h9, h10⟩ := hB
  obtain ⟨i0, hi, hz0, hz1, hz2⟩ := info_parts Try.infoInt
  obtain ⟨c0, c1, f0⟩ := h1.cells
  have hPl := h1.lt
  have hzl : (s.map (·.v)).length ≤ 4194304 := by simpa using hs
  have hn : n < maxLen := by unfold maxLen; omega
  have HMID := hide (fun (w1 : World) (g' cap' : Nat) => add_mid (x := y.v) (w1 := w1) (g' := g') (cap' := cap') h1 h4 h5)
  have HADD := hide (fun (w1 w3 : World) (g' cap' : Nat) => bnd_add (w1 := w1) (w3 := w3) (g' := g') (cap' := cap') h1 h2 h3 h4 h5 h6 h7 h8 h9 h10 hlo hy ht)
  clear h7 h8 h9 h10 h5 h6
  obtain ⟨z, hz⟩ : ∃ z, z = s.map (·.v) := ⟨_, rfl⟩
  rw [← hz] at h4 hzl HMID HADD
  clear hz hy ht hs
  go_enter Try.func92, Try.ntmps92
  go_wp2_with (first
    | (at_builtin; refine wpList_append_lies _ rfl _ _ 40 rfl lo 3 i0 (.int .i64 0) 1 8 Try.underlying40 hi hz0 hz1 hz2 rfl (by decide) ov z.length _ rfl (World.ownsRow.alloc h4 _) ⟨w.heap.size, 0, none⟩ 1 1 [.int .i64 y.v] rfl rfl (cell_one_new _ _ _) (by simp [Value.oneCell']) (by omega) (by unfold maxLen; omega) (by omega) (by simp; omega) (w.heap.size + 1) (by simp) ?_; intro g' cap' w1 hown' hgrow hat hgl'; obtain ⟨e1, e2, e3⟩ := unhide HMID w1 g' cap' hgrow; obtain ⟨d0, d1, d2⟩ := e1.cells; obtain ⟨d3, d4, d5⟩ := e3.cells)
    | (at_mapUpdate; refine wpList_mapUpdate_own _ rfl _ _ _ 113 rfl 3 80 (int_keyed Try.underlying3) Try.underlying113 _ M n D rfl e2 hn _ _ _ rfl rfl (keyOf_int_mk Try.underlying3 hw) (.lit (.int .i64 (p : Int))) [] rfl ?_; intro w3 hmap3 hgrow3))
  go_end0
  exact ⟨⟨_, rfl⟩, unhide HADD w1 w3 g' cap' hown' hgrow hat hmap3 hgrow3⟩
end Go.Proofs.Ytmdmgcjamjgpiaa
