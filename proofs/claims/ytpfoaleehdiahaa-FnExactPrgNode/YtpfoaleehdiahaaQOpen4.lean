/- Arguments of the laws, opened: a goal that came in (a struct of a number and three slices of places). -/
import Derived.Test.YtpfoaleehdiahaaQOpen
import Derived.Lib.SmallJoins
import Derived.Test.YtpfoaleehdiahaaQG2
namespace Go.Proofs.Ytpfoaleehdiahaa
open Go.RowKit Go.Deep Go.ChangeShapes Go.WideShapes Go.Joins
set_option linter.unusedVariables false
set_option linter.unusedSimpArgs false

theorem Try.cellsGoal : Try.prog.cellsOf 178 = 4 := by kernel_rfl
theorem Try.cellsSl4 : Try.prog.cellsOf 26 = 1 := by kernel_rfl

set_option maxRecDepth 100000 in
/-- A slice of places that stands in a struct. -/
theorem open_slot {H : Type} {enc : TypeId × Value → H} {W : World} {v1 : Value} {n' : Nat} {y1 : DataW H × List MemPlace} (t1' : DataW.trod enc Try.prog W 0 (fun _ => true) true n' 26 [v1] = some y1) :
    ∃ (ao : Option Addr) (t : List C) (c : Nat), v1 = .slice ao t.length c ∧ t.length ≤ maxLen ∧ Row W ao t ∧ Fit t := by
  have sh : ∃ ao l c, v1 = .slice ao l c ∧ l ≤ c ∧ c ≤ maxLen := by
    rcases open_slice Try.underlying26 t1' with ⟨hcs, _⟩ | ⟨x, l, c, m, n, D, Pl, hcs, _, hl, hm, _⟩
    · simp at hcs; exact ⟨_, _, _, hcs, Nat.le_refl _, Nat.zero_le _⟩
    · simp at hcs; exact ⟨_, _, _, hcs, hl, hm⟩
  obtain ⟨ao, l1, c1, rfl, hl1, hc1⟩ := sh
  obtain ⟨t, rfl, hm, hR, hF, hw⟩ := open_cells (enc := enc) (d := y1.1) (p := y1.2) ⟨n', t1'⟩
  exact ⟨ao, t, c1, rfl, hm, hR, hF⟩

set_option maxRecDepth 100000 in
/-- A goal that came in leads to three rows of places. -/
theorem open_goal {H : Type} {enc : TypeId × Value → H} {W : World} {v : Value} {d : DataW H} {p : List MemPlace} (hv : ∃ cs, v = .agg cs ∧ cs.size = Try.prog.cellsOf 178)
    (h : DataW.Trod enc Try.prog W 0 (fun _ => true) true 178 v d p) :
    ∃ (k : Int) (xa ya za : Option Addr) (xc yc zc : Nat) (a b c : List C), v = .agg #[.int .i64 k, .slice xa a.length xc, .slice ya b.length yc, .slice za c.length zc] ∧ a.length ≤ maxLen ∧ b.length ≤ maxLen ∧ c.length ≤ maxLen ∧ Row W xa a ∧ Row W ya b ∧ Row W za c ∧ Fit a ∧ Fit b ∧ Fit c := by
  obtain ⟨cs, rfl, hs⟩ := hv
  rw [Try.cellsGoal] at hs
  obtain ⟨fuel, hf⟩ := h
  obtain ⟨y0, y1, y2, y3, n', _, _, t0, t1, t2, t3⟩ := trod_struct4 Try.underlying178 hf
  obtain ⟨l⟩ := cs
  match l, hs with
  | [v0, v1, v2, v3], _ =>
    simp only [Try.cellsInt, Try.cellsSl4, Value.cells] at t0 t1 t2 t3
    obtain ⟨z0, e0, _, w0⟩ := DataW.trod_int Try.underlying3 t0
    obtain ⟨xa, a, xc, rfl, ha, hA, fA⟩ := open_slot (enc := enc) (by simpa using t1)
    obtain ⟨ya, b, yc, rfl, hb, hB, fB⟩ := open_slot (enc := enc) (by simpa using t2)
    obtain ⟨za, c, zc, rfl, hc, hC, fC⟩ := open_slot (enc := enc) (by simpa using t3)
    simp at e0
    subst e0
    exact ⟨z0, xa, ya, za, xc, yc, zc, a, b, c, rfl, ha, hb, hc, hA, hB, hC, fA, fB, fC⟩
end Go.Proofs.Ytpfoaleehdiahaa
