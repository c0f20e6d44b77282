/- A program that is being made: where one name more is called. -/
import Derived.Test.YtpfoaleehdiahaaQQI6
namespace Go.Proofs.Ytpfoaleehdiahaa
open Go.RowKit Go.Shelf
set_option linter.unusedVariables false
set_option linter.unusedSimpArgs false
attribute [-go_sem] Go.Builtin.append_

theorem flatPc_length : ∀ ps : List Pc, (flatPc ps).length = ps.length * 3
  | [] => rfl
  | y :: r => by simp [flatPc, flatPc_length r]; omega
theorem flatPc_append : ∀ a b : List Pc, flatPc (a ++ b) = flatPc a ++ flatPc b
  | [], b => rfl
  | y :: r, b => by simp [flatPc, flatPc_append r b]
theorem flatPc_get : ∀ (ps : List Pc) (i : Nat) (h : i < ps.length), (flatPc ps)[i * 3]? = some (.string ps[i].s) ∧ (flatPc ps)[i * 3 + 1]? = some (.int .i64 ps[i].n) ∧ (flatPc ps)[i * 3 + 2]? = some (.int .i64 ps[i].d)
  | y :: r, 0, _ => by simp [flatPc]
  | y :: r, i + 1, h => by
    have ih := flatPc_get r i (by simpa using h)
    have e : (i + 1) * 3 = i * 3 + 1 + 1 + 1 := by omega
    simp only [flatPc, e, List.getElem?_cons_succ, List.getElem_cons_succ]
    exact ih
theorem rowP_own {w : World} {base : Nat} {ao : Option Addr} {cap : Nat} {ps : List Pc} (h : w.ownsRow base 143 3 (.slice ao ps.length cap) ps.length (flatPc ps)) : RowP w ao ps := by
  rcases h.2 with ⟨e, hn⟩ | ⟨g, c, cur, e, _⟩
  · exact .inl (List.length_eq_zero_iff.1 hn)
  · have e' := e
    simp only [Value.slice.injEq] at e'
    obtain ⟨rfl, _, rfl⟩ := e'
    refine .inr ⟨g, 0, rfl, fun i hi => ?_⟩
    obtain ⟨q0, q1, q2⟩ := flatPc_get ps i hi
    have hl := flatPc_length ps
    refine ⟨_, _, _, ?_, ?_, ?_, rfl, rfl, rfl⟩
    · rw [Nat.zero_add]; exact (h.cellAt (i * 3) (by omega)).trans q0
    · rw [Nat.zero_add]; exact (h.cellAt (i * 3 + 1) (by omega)).trans q1
    · rw [Nat.zero_add]; exact (h.cellAt (i * 3 + 2) (by omega)).trans q2
/-- One name more may be told. -/
def okPl (ps : List Pc) (y : Pc) : Bool := okC ⟨3, y.n, y.s⟩ && decide (1 ≤ y.d ∧ y.d < 3) && decide (ps.length ≠ 6) && decide (nodeP ps y.s y.n = 0)
theorem prM_place {w w2 w3 : World} {P cl g' cap' : Nat} {ps : List Pc} {y : Pc} {vc vp : Value} {ob : Obj} (h : PrM w P cl ps w2 vc vp)
    (hown : w3.ownsRow (P + 1) 143 3 (.slice (some ⟨g', 0, none⟩) (ps.length + 1) cap') (ps.length + 1) (flatPc ps ++ [.string y.s, .int .i64 y.n, .int .i64 y.d])) (hgrow : (w2.alloc ob).grownBy w3 vp.ownBlock) :
    w3.heap[P]? = some (.cells #[vc, vp] 95 (0, 0)) ∧ PrM w P cl (ps ++ [y]) (w3.setCell ⟨P, 1, none⟩ (.slice (some ⟨g', 0, none⟩) (ps.length + 1) cap')) vc (.slice (some ⟨g', 0, none⟩) (ps.length + 1) cap') := by
  have hP := h.lt
  obtain ⟨xs, hx⟩ := h.oc
  have hsa : (w2.alloc ob).heap.size = w2.heap.size + 1 := by simp
  have hP3 : w3.heap[P]? = some (.cells #[vc, vp] 95 (0, 0)) := by
    rw [hgrow.block P (by omega) (fun e => by have := (h.op.lt P e.symm).1; omega), Below.heap_alloc _ _ _ hP]
    exact h.hp
  refine ⟨hP3, ?_, ⟨xs, own_block hx (fun j e => ?_)⟩, ?_, h.lo, ?_⟩
  · obtain ⟨hlt, hk'⟩ := Array.getElem?_eq_some_iff.1 hP3
    show (w3.heap.modify P _)[P]? = _
    rw [Array.getElem?_eq_getElem (by rw [Array.size_modify]; exact hlt), Array.getElem_modify_self, hk']
    rfl
  · have hj := hx.lt j e
    rw [Below.heap_setCell _ _ _ _ (by show j ≠ P; omega), hgrow.block j (by omega) (fun e' => own_types hx h.op (by decide) j e e'.symm)]
    exact Below.heap_alloc _ _ _ (by omega)
  · have e : (ps ++ [y]).length = ps.length + 1 := by simp
    rw [e, flatPc_append]
    exact own_block hown (fun j e => Below.heap_setCell _ _ _ _ (by have := (hown.lt j e).1; show j ≠ P; omega))
  · exact ((h.bl.alloc (by have := h.lo; omega) ob).grown hgrow (by have := h.lo; omega) (fun j e => by have := (h.op.lt j e).1; have := h.lo; omega)).setCell (p := ⟨P, 1, none⟩) h.lo _
end Go.Proofs.Ytpfoaleehdiahaa
