/- Arguments of the laws, opened: bindings that came in (a slice of structs, each a number and a slice of places). -/
import Derived.Test.YtcimlcmhodpalaaQMemOpen
import Derived.Test.YtcimlcmhodpalaaQSB1
namespace Go.Proofs.Ytcimlcmhodpalaa
open Go.RowKit Go.Deep Go.ChangeShapes Go.WideShapes
set_option linter.unusedVariables false
set_option linter.unusedSimpArgs false

theorem Try.cellsBind : Try.prog.cellsOf 106 = 2 := by kernel_rfl
theorem Try.cellsSl : Try.prog.cellsOf 55 = 1 := by kernel_rfl

theorem choose_B {n : Nat} {p : Nat → B → Prop} (h : ∀ i, i < n → ∃ x, p i x) : ∃ f : Nat → B, ∀ i, i < n → p i (f i) := by
  classical
  refine ⟨fun i => if hi : i < n then Classical.choose (h i hi) else ⟨0, []⟩, fun i hi => ?_⟩
  simp only [dif_pos hi]
  exact Classical.choose_spec (h i hi)

set_option maxRecDepth 100000 in
/-- A slice of bindings that came in leads to bindings. -/
theorem open_binds {H : Type} {enc : TypeId × Value → H} {W : World} {a : Option Addr} {len cap : Nat} {d : DataW H} {p : List MemPlace}
    (h : DataW.Trod enc Try.prog W 0 (fun _ => true) true 60 (.slice a len cap) d p) :
    ∃ s : List B, s.length = len ∧ len ≤ maxLen ∧ RowB W a s ∧ FitB s := by
  obtain ⟨fuel, hf⟩ := h
  rcases open_slice Try.underlying60 hf with ⟨hcs, _⟩ | ⟨x, l, c, m, n, D, Pl, hcs, _, hl, hm, hmm, _, hx⟩
  · simp [Value.cells] at hcs
    obtain ⟨rfl, rfl, rfl⟩ := hcs
    exact ⟨[], rfl, by simp [maxLen], .inl rfl, fun c hc => by simp at hc⟩
  · simp [Value.cells] at hcs
    obtain ⟨rfl, rfl, rfl⟩ := hcs
    simp only [if_true] at hmm
    have each : ∀ i, i < len → ∃ q : B, W.cell? (x.add (i * 2)) = some (.int .i64 q.v) ∧ (∃ ao cp, W.cell? (x.add (i * 2 + 1)) = some (.slice ao q.t.length cp) ∧ q.t.length ≤ cp ∧ cp ≤ maxLen ∧ Row W ao q.t) ∧
        Fit q.t ∧ WfC q.t ∧ (Lit.int .i64 q.v).wf = true := fun i hi => by
      obtain ⟨cs', h1, h2⟩ := hx i (by omega)
      rw [Try.cellsBind] at h1
      obtain ⟨_, hlen, hcell⟩ := World.cells?_some h1
      obtain ⟨y0, y1, n', _, _, t0, t1⟩ := trod_struct2 Try.underlying106 h2
      match cs', hlen with
      | [v0, v1], _ =>
        have k0 := hcell 0 (by omega)
        have k1 := hcell 1 (by omega)
        simp only [Try.cellsInt, Try.cellsSl] at t0 t1
        obtain ⟨z0, e0, _, w0⟩ := DataW.trod_int Try.underlying3 t0
        have t1' : DataW.trod enc Try.prog W 0 (fun _ => true) true n' 55 [v1] = some y1 := by simpa using t1
        have sh : ∃ ao l c, v1 = .slice ao l c ∧ l ≤ c ∧ c ≤ maxLen := by
          rcases open_slice Try.underlying55 t1' with ⟨hcs, _⟩ | ⟨x, l, c, m, n, D, Pl, hcs, _, hl, hm, _⟩
          · simp at hcs; exact ⟨_, _, _, hcs, Nat.le_refl _, Nat.zero_le _⟩
          · simp at hcs; exact ⟨_, _, _, hcs, hl, hm⟩
        obtain ⟨ao, l1, c1, rfl, hl1, hc1⟩ := sh
        obtain ⟨t, rfl, _, hR, hF, hw⟩ := open_cells (enc := enc) (d := y1.1) (p := y1.2) ⟨n', t1'⟩
        simp at e0 k0 k1
        subst e0
        rw [add_add] at k0 k1
        exact ⟨⟨z0, t⟩, k0, ⟨ao, c1, k1, hl1, hc1, hR⟩, hF, hw, w0⟩
    obtain ⟨b, off, spot⟩ := x
    by_cases h0 : len = 0
    · subst h0
      exact ⟨[], rfl, by omega, .inl rfl, fun c hc => by simp at hc⟩
    · have hsp : spot = none := by
        obtain ⟨q, hq, _⟩ := each 0 (by omega)
        simpa [Addr.add] using World.cell?_spot hq
      subst hsp
      simp only [add_zero_spot] at each
      obtain ⟨f, hfn⟩ := choose_B each
      have hget : ∀ i, (hi : i < ((List.range len).map f).length) → ((List.range len).map f)[i] = f i := fun i hi => by simp
      refine ⟨(List.range len).map f, by simp, by omega, .inr ⟨b, off, rfl, fun i hi => ?_⟩, fun c hc => ?_⟩
      · rw [hget i hi]
        have := hfn i (by simpa using hi)
        exact ⟨this.1, this.2.1⟩
      · obtain ⟨i, hi, rfl⟩ := List.mem_map.1 hc
        exact (hfn i (by simpa using hi)).2.2
end Go.Proofs.Ytcimlcmhodpalaa
