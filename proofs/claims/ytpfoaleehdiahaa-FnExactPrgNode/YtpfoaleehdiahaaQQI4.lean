/- A clause of the program that is being made: what stays, and one goal more. -/
import Derived.Test.YtpfoaleehdiahaaQQI2
namespace Go.Proofs.Ytpfoaleehdiahaa
open Go.RowKit Go.Shelf
set_option linter.unusedVariables false
set_option linter.unusedSimpArgs false

def LkP (lo hi : Nat) (W : World) (o : Option Nat) (t : List C) : Prop := (trm t = true ∧ ∃ p, o = some p ∧ TreL lo hi W p t) ∨ (trm t = false ∧ o = none)
theorem LkP.kept {lo hi : Nat} {W W' : World} {o : Option Nat} {t : List C} (h : LkP lo hi W o t) (hk : ∀ b, lo ≤ b → b < hi → W'.heap[b]? = W.heap[b]?) : LkP lo hi W' o t :=
  h.imp_left fun ⟨h1, p, e, h2⟩ => ⟨h1, p, e, h2.kept (Nat.le_refl _) (Nat.le_refl _) hk⟩
theorem LkP.lk {lo hi : Nat} {W : World} {o : Option Nat} {t : List C} (h : LkP lo hi W o t) (hh : hi ≤ W.heap.size) : Lk lo W o t :=
  h.imp_left fun ⟨h1, p, e, h2⟩ => ⟨h1, p, e, h2.kept (Nat.le_refl _) hh (fun _ _ _ => rfl)⟩

/-- A clause that is being made: so many goals are in it. -/
def ClK (x : Cl) (o : Option Nat) (w : World) (P k : Nat) (wr : World) (bv : Value) : Prop :=
  ∃ vs, wr.heap[P]? = some (.cells #[ptrV o, bv] 201 (0, 0)) ∧ wr.ownsRow (P + 1) 203 1 bv k vs ∧
    (∀ i, (h : i < x.g.length) → i < k → ∃ v lo hi, vs[i]? = some v ∧ P < lo ∧ hi ≤ wr.heap.size ∧ (∀ g, bv.ownBlock = some g → g < lo ∨ hi ≤ g) ∧ GoF lo hi x.g[i] wr v) ∧ LkP w.heap.size P wr o x.h ∧ w.heap.size ≤ P ∧ Below w.heap.size w wr
theorem clause_cells {w : World} {B : Nat} {a b : Value} (h : w.heap[B]? = some (.cells #[a, b] 201 (0, 0))) :
    w.cell? ⟨B, 0, none⟩ = some a ∧ w.cell? ⟨B, 1, none⟩ = some b ∧ w.frozen? ⟨B, 0, none⟩ = false ∧ w.frozen? ⟨B, 1, none⟩ = false := by
  simp [World.cell?, World.frozen?, h]
theorem clK_step {x : Cl} {o : Option Nat} {w wr w2 w3 : World} {P k g' cap' lo hi : Nat} {bv v : Value} {vs : List Value} {ob : Obj} (hk : k < x.g.length)
    (h1 : wr.heap[P]? = some (.cells #[ptrV o, bv] 201 (0, 0))) (h2 : wr.ownsRow (P + 1) 203 1 bv k vs)
    (h3 : ∀ i, (h : i < x.g.length) → i < k → ∃ v lo hi, vs[i]? = some v ∧ P < lo ∧ hi ≤ wr.heap.size ∧ (∀ g, bv.ownBlock = some g → g < lo ∨ hi ≤ g) ∧ GoF lo hi x.g[i] wr v) (h4 : LkP w.heap.size P wr o x.h) (h5 : w.heap.size ≤ P) (h6 : Below w.heap.size w wr)
    (hb : Below wr.heap.size wr w2) (hlo : wr.heap.size ≤ lo) (hhi : hi ≤ w2.heap.size) (hG : GoF lo hi x.g[k] w2 v)
    (hown : w3.ownsRow (P + 1) 203 1 (.slice (some ⟨g', 0, none⟩) (k + 1) cap') (k + 1) (vs ++ [v])) (hgrow : (w2.alloc ob).grownBy w3 bv.ownBlock) (hat : bv.ownBlock = some g' ∨ g' = (w2.alloc ob).heap.size) :
    ClK x o w P (k + 1) (w3.setCell ⟨P, 1, none⟩ (.slice (some ⟨g', 0, none⟩) (k + 1) cap')) (.slice (some ⟨g', 0, none⟩) (k + 1) cap') := by
  have hP : P < wr.heap.size := (Array.getElem?_eq_some_iff.1 h1).1
  have hsa : (w2.alloc ob).heap.size = w2.heap.size + 1 := by simp
  have hs2 := hb.size
  have hs3 := hgrow.size
  have hbv : ∀ g, bv.ownBlock = some g → P < g ∧ g < wr.heap.size := fun g e => by have := h2.lt g e; omega
  have hg : P < g' := by
    rcases hat with h | h
    · exact (hbv g' h).1
    · omega
  have hvl : vs.length = k := by have := h2.1; omega
  -- a block below w2's end, neither the row nor the clause, is as it was
  have key : ∀ b, b < w2.heap.size → bv.ownBlock ≠ some b → b ≠ P → (w3.setCell ⟨P, 1, none⟩ (.slice (some ⟨g', 0, none⟩) (k + 1) cap')).heap[b]? = w2.heap[b]? := fun b hb1 hb2 hb3 => by
    rw [Below.heap_setCell _ _ _ _ hb3, hgrow.block b (by omega) (fun e => hb2 e.symm)]
    exact Below.heap_alloc _ _ _ hb1
  have hszE : (w3.setCell ⟨P, 1, none⟩ (.slice (some ⟨g', 0, none⟩) (k + 1) cap')).heap.size = w3.heap.size := by simp [World.setCell]
  refine ⟨vs ++ [v], ?_, own_block hown (fun j e => Below.heap_setCell _ _ _ _ ?_), fun i hi hik => ?_, h4.kept (fun b hb1 hb2 => ?_), h5, ?_⟩
  · have hP3 : w3.heap[P]? = some (.cells #[ptrV o, bv] 201 (0, 0)) := by
      rw [hgrow.block P (by omega) (fun e => by have := (hbv P e.symm).1; omega), Below.heap_alloc _ _ _ (by omega), hb.block P hP]
      exact h1
    obtain ⟨hlt, hk'⟩ := Array.getElem?_eq_some_iff.1 hP3
    show (w3.heap.modify P _)[P]? = _
    rw [Array.getElem?_eq_getElem (by rw [Array.size_modify]; exact hlt), Array.getElem_modify_self, hk']
    rfl
  · have : g' = j := by simpa [Value.ownBlock] using e
    show j ≠ P
    omega
  · by_cases e : i < k
    · obtain ⟨u, l, r, q1, q2, q3, q4, q5⟩ := h3 i hi e
      refine ⟨u, l, r, ?_, q2, by omega, fun g eg => ?_, q5.kept (fun b hb1 hb2 => ?_)⟩
      · rw [List.getElem?_append_left (by omega)]; exact q1
      · have : g' = g := by simpa [Value.ownBlock] using eg
        subst this
        rcases hat with h | h
        · exact q4 _ h
        · right; omega
      · rw [key b (by omega) (fun e => by rcases q4 b e with h | h <;> omega) (by omega)]
        exact hb.block b (by omega)
    · obtain rfl : i = k := by omega
      refine ⟨v, lo, _, ?_, by omega, ?_, fun g eg => ?_, hG.kept (fun b hb1 hb2 => key b (by omega) (fun e => by have := (hbv b e).2; omega) (by omega))⟩
      · rw [List.getElem?_append_right (by omega), hvl]; simp
      · omega
      · have : g' = g := by simpa [Value.ownBlock] using eg
        subst this
        rcases hat with h | h
        · left; have := (hbv _ h).2; omega
        · right; omega
  · rw [key b (by omega) (fun e => by have := (hbv b e).1; omega) (by omega)]
    exact hb.block b (by omega)
  · have hB2 : Below w.heap.size w w2 := h6.trans (hb.mono (by omega))
    exact ((hB2.alloc (by omega) ob).grown hgrow (by omega) (fun j e => by have := (hbv j e).1; omega)).setCell (p := ⟨P, 1, none⟩) (by show w.heap.size ≤ P; exact h5) _
theorem clK_end {x : Cl} {o : Option Nat} {w wr : World} {P : Nat} {bv : Value} (h : ClK x o w P x.g.length wr bv) : ∃ ao cap, bv = .slice ao x.g.length cap ∧ ClM w.heap.size wr P x o ao cap := by
  obtain ⟨vs, h1, h2, h3, h4, h5, h6⟩ := h
  have hP : P < wr.heap.size := (Array.getElem?_eq_some_iff.1 h1).1
  obtain ⟨c0, c1, _, _⟩ := clause_cells h1
  rcases h2.2 with ⟨e, hn⟩ | ⟨g, cap, cur, e, _⟩
  · refine ⟨none, 0, by rw [e, hn], c0, by rw [c1, e, hn], h4.lk (by omega), .inl (List.length_eq_zero_iff.1 hn)⟩
  · refine ⟨some ⟨g, 0, none⟩, cap, e, c0, by rw [c1, e], h4.lk (by omega), .inr ⟨g, rfl, fun i hi => ?_⟩⟩
    obtain ⟨v, l, r, q1, q2, q3, q4, q5⟩ := h3 i hi hi
    subst e
    have := h2.cellAt i (by have := h2.1; omega)
    exact ⟨v, l, r, this.trans q1, q3, q5⟩
end Go.Proofs.Ytpfoaleehdiahaa
