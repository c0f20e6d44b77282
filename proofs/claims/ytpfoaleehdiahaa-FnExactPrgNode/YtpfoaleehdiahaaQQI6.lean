/- A program that is being made: a clause more. -/
import Derived.Test.YtpfoaleehdiahaaQQI5
import Derived.Test.YtpfoaleehdiahaaQQI3
namespace Go.Proofs.Ytpfoaleehdiahaa
open Go.RowKit Go.Shelf
set_option linter.unusedVariables false
set_option linter.unusedSimpArgs false
attribute [-go_sem] Go.Builtin.append_

def flatPc : List Pc → List Value
  | [] => []
  | y :: r => .string y.s :: .int .i64 y.n :: .int .i64 y.d :: flatPc r
/-- A program that is being made. -/
structure PrM (w : World) (P cl : Nat) (ps : List Pc) (wr : World) (vc vp : Value) : Prop where
  hp : wr.heap[P]? = some (.cells #[vc, vp] 95 (0, 0))
  oc : ∃ xs, wr.ownsRow (P + 1) 148 1 vc cl xs
  op : wr.ownsRow (P + 1) 143 3 vp ps.length (flatPc ps)
  lo : w.heap.size ≤ P
  bl : Below w.heap.size w wr
theorem program_cells {w : World} {B : Nat} {a b : Value} (h : w.heap[B]? = some (.cells #[a, b] 95 (0, 0))) :
    w.cell? ⟨B, 0, none⟩ = some a ∧ w.cell? ⟨B, 1, none⟩ = some b ∧ w.frozen? ⟨B, 0, none⟩ = false ∧ w.frozen? ⟨B, 1, none⟩ = false := by
  simp [World.cell?, World.frozen?, h]
theorem PrM.lt {w : World} {P cl : Nat} {ps : List Pc} {wr : World} {vc vp : Value} (h : PrM w P cl ps wr vc vp) : P < wr.heap.size := (Array.getElem?_eq_some_iff.1 h.hp).1
theorem PrM.below {w : World} {P cl : Nat} {ps : List Pc} {wr wr' : World} {vc vp : Value} (h : PrM w P cl ps wr vc vp) (hb : Below wr.heap.size wr wr') : PrM w P cl ps wr' vc vp := by
  obtain ⟨xs, hx⟩ := h.oc
  exact ⟨(hb.block P h.lt).trans h.hp, ⟨xs, own_below hx hb⟩, own_below h.op hb, h.lo, bstep h.bl hb⟩
/-- Rows of two types lie in two blocks. -/
theorem own_types {w : World} {base e1 e2 s1 s2 n1 n2 : Nat} {v1 v2 : Value} {x1 x2 : List Value} (h1 : w.ownsRow base e1 s1 v1 n1 x1) (h2 : w.ownsRow base e2 s2 v2 n2 x2) (he : e1 ≠ e2) : ∀ g, v1.ownBlock = some g → v2.ownBlock ≠ some g := by
  intro g g1 g2
  rcases h1.2 with ⟨rfl, _⟩ | ⟨a, c, cur, rfl, _, hb, _⟩
  · simp [Value.ownBlock] at g1
  · rcases h2.2 with ⟨rfl, _⟩ | ⟨a', c', cur', rfl, _, hb', _⟩
    · simp [Value.ownBlock] at g2
    · have e1 : a = g := by simpa [Value.ownBlock] using g1
      have e2 : a' = g := by simpa [Value.ownBlock] using g2
      subst e1 e2
      rw [hb] at hb'
      simp only [Option.some.injEq, Obj.cells.injEq] at hb'
      exact he hb'.2.1
theorem prM_clause {w wr w3 : World} {P cl g' cap' : Nat} {ps : List Pc} {vc vp u : Value} {xs : List Value} {ob : Obj} (h : PrM w P cl ps wr vc vp) (hx : wr.ownsRow (P + 1) 148 1 vc cl xs)
    (hown : w3.ownsRow (P + 1) 148 1 (.slice (some ⟨g', 0, none⟩) (cl + 1) cap') (cl + 1) (xs ++ [u])) (hgrow : (wr.alloc ob).grownBy w3 vc.ownBlock) :
    w3.heap[P]? = some (.cells #[vc, vp] 95 (0, 0)) ∧ PrM w P (cl + 1) ps (w3.setCell ⟨P, 0, none⟩ (.slice (some ⟨g', 0, none⟩) (cl + 1) cap')) (.slice (some ⟨g', 0, none⟩) (cl + 1) cap') vp := by
  have hP := h.lt
  have hsa : (wr.alloc ob).heap.size = wr.heap.size + 1 := by simp
  have hP3 : w3.heap[P]? = some (.cells #[vc, vp] 95 (0, 0)) := by
    rw [hgrow.block P (by omega) (fun e => by have := (hx.lt P e.symm).1; omega), Below.heap_alloc _ _ _ hP]
    exact h.hp
  refine ⟨hP3, ?_, ⟨_, own_block hown (fun j e => Below.heap_setCell _ _ _ _ ?_)⟩, own_block h.op (fun j e => ?_), h.lo, ?_⟩
  · obtain ⟨hlt, hk'⟩ := Array.getElem?_eq_some_iff.1 hP3
    show (w3.heap.modify P _)[P]? = _
    rw [Array.getElem?_eq_getElem (by rw [Array.size_modify]; exact hlt), Array.getElem_modify_self, hk']
    rfl
  · have := (hown.lt j e).1
    show j ≠ P
    omega
  · have hj := h.op.lt j e
    rw [Below.heap_setCell _ _ _ _ (by show j ≠ P; omega), hgrow.block j (by omega) (fun e' => own_types h.op hx (by decide) j e e'.symm)]
    exact Below.heap_alloc _ _ _ (by omega)
  · exact ((h.bl.alloc (by have := h.lo; omega) ob).grown hgrow (by have := h.lo; omega) (fun j e => by have := (hx.lt j e).1; have := h.lo; omega)).setCell (p := ⟨P, 0, none⟩) h.lo _

set_option maxRecDepth 100000 in
set_option maxHeartbeats 4000000 in
theorem addClause_yes (w : World) (P q cl : Nat) (ps : List Pc) (wr : World) (vc vp : Value) (hc : cl < 12) (h : PrM w P cl ps wr vc vp) :
    Calls Try.prog 102 #[.pointer (some ⟨P, 0, none⟩), .pointer (some ⟨q, 0, none⟩)] wr fun e w' => e = .returned (.bool true) ∧ ∃ vc', PrM w P (cl + 1) ps w' vc' vp := by
  obtain ⟨i0, hi, hz0, hz1, hz2⟩ := info_parts (show (Try.prog.info? 148).map (fun i => (i.zero, i.size, i.bytes)) = some (some (.pointer none), 1, 8) by kernel_rfl)
  obtain ⟨xs, hx⟩ := h.oc
  obtain ⟨c0, c1, f0, f1⟩ := program_cells h.hp
  have hsh : ∃ ao cap, vc = .slice ao cl cap := by
    rcases hx.2 with ⟨e, hn⟩ | ⟨g, cap, cur, e, _⟩
    · exact ⟨none, 0, by rw [e, hn]⟩
    · exact ⟨_, _, e⟩
  obtain ⟨ao, cap, rfl⟩ := hsh
  have hlt := h.lt
  have hlo := h.lo
  have ca0 := cell_keep5 c0 (.cells #[.pointer (some ⟨q, 0, none⟩)] 148)
  obtain ⟨g', cap', w3, hr, hown', hgrow, hat, hgl⟩ := run_append_lies (P := Try.prog) (wr.alloc (.cells #[.pointer (some ⟨q, 0, none⟩)] 148)) 93 93 (P + 1) 148 i0 _ 1 8 Try.underlying93 hi hz0 hz1 hz2 rfl (by decide) (.slice ao cl cap) cl xs (World.ownsRow.alloc hx _) ⟨wr.heap.size, 0, none⟩ 1 1 [.pointer (some ⟨q, 0, none⟩)] rfl (cell_one_new wr _ _) (by simp [Value.oneCell']) (by omega) (by unfold maxLen; omega) (by omega) (by simp; omega) _ rfl
  have hr' : Sem.run Try.prog (Builtin.append_ #[93, 93] 93 #[.slice ao cl cap, .slice (some ⟨wr.heap.size, 0, none⟩) 1 1]) (wr.alloc (.cells #[.pointer (some ⟨q, 0, none⟩)] 148)) = .ok (.slice (some ⟨g', 0, none⟩) (cl + 1) cap') w3 := hr
  obtain ⟨hn3, hM⟩ := prM_clause h hx hown' hgrow
  obtain ⟨t0, t1, s0, s1⟩ := program_cells hn3
  have HM := hide hM
  have hc12 : ((cl : Int) == 12) = false := by simp; omega
  clear hr hM hown' hgrow hat hgl h hx hn3
  go_enter Try.func102, Try.ntmps102
  go_wp2
  go_ret
  exact ⟨rfl, _, unhide HM⟩
end Go.Proofs.Ytpfoaleehdiahaa
