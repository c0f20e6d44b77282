import Derived.Test.YtoanmnmodlocgaaDoorRows
import Derived.Test.YtoanmnmodlocgaaDoorQPlainMem
import Derived.Deep.Strs
import Derived.ProofKit
import Derived.OpenShut
/- Arguments of the laws, opened: places that came in (a slice of structs of three fields). -/
namespace Go.Proofs.YtoanmnmodlocgaaDoor
open Go.RowKit Go.Deep Go.ChangeShapes Go.WideShapes
set_option linter.unusedVariables false
set_option linter.unusedSimpArgs false

theorem own_knob : ownKnob Tryd.prog.godebug = none := by kernel_rfl
theorem laid_out : laidOutB Tryd.prog = true := by kernel_rfl
theorem Tryd.cellsLaw : Tryd.prog.cellsOf 63 = 3 := by kernel_rfl
theorem Tryd.cellsInt : Tryd.prog.cellsOf 3 = 1 := by kernel_rfl
theorem Tryd.cellsStr : Tryd.prog.cellsOf 9 = 1 := by kernel_rfl

theorem add_zero_spot {b off : Nat} (i : Nat) : (⟨b, off, none⟩ : Addr).add i = ⟨b, off + i, none⟩ := by
  unfold Addr.add
  by_cases h : i = 0
  · simp [h]
  · simp [h]

theorem choose_C {n : Nat} {p : Nat → C → Prop} (h : ∀ i, i < n → ∃ x, p i x) : ∃ f : Nat → C, ∀ i, i < n → p i (f i) := by
  classical
  refine ⟨fun i => if hi : i < n then Classical.choose (h i hi) else ⟨0, 0, ByteArray.empty⟩, fun i hi => ?_⟩
  simp only [dif_pos hi]
  exact Classical.choose_spec (h i hi)

/-- All numbers of places fit an int. -/
def WfC (t : List C) : Prop := ∀ c ∈ t, (Lit.int .i64 c.k).wf = true ∧ (Lit.int .i64 c.n).wf = true

set_option maxRecDepth 100000 in
/-- A slice of places that came in leads to places. -/
theorem open_cells {H : Type} {enc : TypeId × Value → H} {W : World} {a : Option Addr} {len cap : Nat} {d : DataW H} {p : List MemPlace}
    (h : DataW.Trod enc Tryd.prog W 0 (fun _ => true) true 36 (.slice a len cap) d p) :
    ∃ t : List C, t.length = len ∧ len ≤ maxLen ∧ Row W a t ∧ Fit t ∧ WfC t := by
  obtain ⟨fuel, hf⟩ := h
  rcases open_slice Tryd.underlying36 hf with ⟨hcs, _⟩ | ⟨x, l, c, m, n, D, Pl, hcs, _, hl, hm, hmm, _, hx⟩
  · simp [Value.cells] at hcs
    obtain ⟨rfl, rfl, rfl⟩ := hcs
    exact ⟨[], rfl, by simp [maxLen], .inl rfl, fun c hc => by simp at hc, fun c hc => by simp at hc⟩
  · simp [Value.cells] at hcs
    obtain ⟨rfl, rfl, rfl⟩ := hcs
    simp only [if_true] at hmm
    have each : ∀ i, i < len → ∃ q : C, W.cell? (x.add (i * 3)) = some (.int .i64 q.k) ∧ W.cell? (x.add (i * 3 + 1)) = some (.int .i64 q.n) ∧ W.cell? (x.add (i * 3 + 2)) = some (.string q.s) ∧
        q.s.size ≤ maxLen ∧ (Lit.int .i64 q.k).wf = true ∧ (Lit.int .i64 q.n).wf = true := fun i hi => by
      obtain ⟨cs', h1, h2⟩ := hx i (by omega)
      rw [Tryd.cellsLaw] at h1
      obtain ⟨_, hlen, hcell⟩ := World.cells?_some h1
      obtain ⟨y0, y1, y2, n', _, _, t0, t1, t2⟩ := trod_struct3 Tryd.underlying63 h2
      match cs', hlen with
      | [v0, v1, v2], _ =>
        have k0 := hcell 0 (by omega)
        have k1 := hcell 1 (by omega)
        have k2 := hcell 2 (by omega)
        simp only [Tryd.cellsInt, Tryd.cellsStr] at t0 t1 t2
        obtain ⟨z0, e0, _, w0⟩ := DataW.trod_int Tryd.underlying3 t0
        obtain ⟨z1, e1, _, w1⟩ := DataW.trod_int Tryd.underlying3 t1
        obtain ⟨s2, e2, _, hs⟩ := DataW.trod_string Tryd.underlying9 t2
        simp at e0 e1 e2 k0 k1 k2
        subst e0 e1 e2
        rw [add_add] at k0 k1 k2
        exact ⟨⟨z0, z1, s2⟩, k0, k1, k2, hs, w0, w1⟩
    obtain ⟨b, off, spot⟩ := x
    by_cases h0 : len = 0
    · subst h0
      exact ⟨[], rfl, by omega, .inl rfl, fun c hc => by simp at hc, fun c hc => by simp at hc⟩
    · have hsp : spot = none := by
        obtain ⟨q, hq, _⟩ := each 0 (by omega)
        simpa [Addr.add] using World.cell?_spot hq
      subst hsp
      simp only [add_zero_spot] at each
      obtain ⟨f, hfn⟩ := choose_C each
      have hget : ∀ i, (hi : i < ((List.range len).map f).length) → ((List.range len).map f)[i] = f i := fun i hi => by simp
      refine ⟨(List.range len).map f, by simp, by omega, .inr ⟨b, off, rfl, fun i hi => ?_⟩, fun c hc => ?_, fun c hc => ?_⟩
      · rw [hget i hi]
        have := hfn i (by simpa using hi)
        exact ⟨this.1, this.2.1, this.2.2.1⟩
      · obtain ⟨i, hi, rfl⟩ := List.mem_map.1 hc
        exact (hfn i (by simpa using hi)).2.2.2.1
      · obtain ⟨i, hi, rfl⟩ := List.mem_map.1 hc
        exact (hfn i (by simpa using hi)).2.2.2.2
end Go.Proofs.YtoanmnmodlocgaaDoor

/- Arguments of the laws, opened: bytes that came in. -/
namespace Go.Proofs.YtoanmnmodlocgaaDoor
open Go.RowKit Go.Deep Go.ChangeShapes Go.WideShapes
set_option linter.unusedVariables false
set_option linter.unusedSimpArgs false

/-- Bytes that came in. -/
def Bin (w : World) (a : Option Addr) (len cap : Nat) (z : Nat → Int) : Prop :=
  len ≤ cap ∧ cap ≤ maxLen ∧ (∀ i, 0 ≤ z i ∧ z i ≤ 255) ∧ (len = 0 ∨ ∃ b off, a = some ⟨b, off, none⟩ ∧ ∀ i, i < len → w.cell? ⟨b, off + i, none⟩ = some (.int .u8 (z i)))

theorem Tryd.cellsByte : Tryd.prog.cellsOf 5 = 1 := by kernel_rfl

/-- A slice of bytes that came in leads to bytes. -/
theorem open_bytes {H : Type} {enc : TypeId × Value → H} {W : World} {a : Option Addr} {len cap : Nat} {d : DataW H} {p : List MemPlace}
    (h : DataW.Trod enc Tryd.prog W 0 (fun _ => true) true 22 (.slice a len cap) d p) : ∃ z, Bin W a len cap z := by
  obtain ⟨fuel, hf⟩ := h
  rcases open_ints Tryd.underlying22 Tryd.underlying5 Tryd.cellsByte hf with ⟨hcs, _⟩ | ⟨x, l, c, zs, hcs, _, hl, hm, hz, _, hcell, hwz⟩
  · simp [Value.cells] at hcs
    obtain ⟨rfl, rfl, rfl⟩ := hcs
    exact ⟨fun _ => 0, Nat.le_refl _, by simp [maxLen], fun _ => ⟨by simp, by simp⟩, .inl rfl⟩
  · simp [Value.cells] at hcs
    obtain ⟨rfl, rfl, rfl⟩ := hcs
    have hzl : zs.length = cap := by simpa using hz
    have hb : ∀ i, 0 ≤ zs.getD i 0 ∧ zs.getD i 0 ≤ 255 := fun i => by
      by_cases hi : i < zs.length
      · have hm' : zs.getD i 0 ∈ zs := by rw [show zs.getD i 0 = zs[i] by simp [List.getD, hi]]; exact List.getElem_mem hi
        have hw' := hwz _ hm'
        generalize zs.getD i 0 = y at hw' ⊢
        simpa [Lit.wf, IntKind.min, IntKind.max, IntKind.signed, IntKind.bits] using hw'
      · rw [show zs.getD i 0 = 0 by simp [List.getD, hi]]; omega
    refine ⟨fun i => zs.getD i 0, hl, hm, hb, ?_⟩
    by_cases h0 : len = 0
    · exact .inl h0
    · right
      obtain ⟨b, off, spot⟩ := x
      have hsp : spot = none := by
        have := hcell 0 (by omega)
        simpa [Addr.add] using World.cell?_spot this
      subst hsp
      refine ⟨b, off, rfl, fun i hi => ?_⟩
      have := hcell i (by omega)
      rwa [add_zero_spot] at this
end Go.Proofs.YtoanmnmodlocgaaDoor
