import Derived.Test.YthelpghiafbejaaDoorQPlain
import Derived.WalkKit
import Derived.Test.YthelpghiafbejaaDoorRows
import Derived.Deep.Strs
import Derived.ProofKit
import Derived.OpenShut
/- Places of terms in memory: a slice that holds them, and what keeps it. -/
namespace Go.Proofs.YthelpghiafbejaaDoor
open Go.RowKit
set_option linter.unusedVariables false
set_option linter.unusedSimpArgs false

theorem hide {p : Prop} (h : p) : Hid p := h
theorem unhide {p : Prop} (h : Hid p) : p := h

/-- From cell 'off' of block b on lie the places t, three cells each. -/
def At (w : World) (b off : Nat) (t : List C) : Prop :=
  ∀ i, (h : i < t.length) → w.cell? ⟨b, off + i * 3, none⟩ = some (.int .i64 t[i].k) ∧ w.cell? ⟨b, off + i * 3 + 1, none⟩ = some (.int .i64 t[i].n) ∧ w.cell? ⟨b, off + i * 3 + 2, none⟩ = some (.string t[i].s)

/-- A slice's address leads to the places t. -/
def Row (w : World) (ao : Option Addr) (t : List C) : Prop := t = [] ∨ ∃ b off, ao = some ⟨b, off, none⟩ ∧ At w b off t

/-- All names are within the length that a text may have. -/
def Fit (t : List C) : Prop := ∀ c ∈ t, c.s.size ≤ maxLen

theorem Fit.get {t : List C} (h : Fit t) (i : Nat) (hi : i < t.length) : t[i].s.size ≤ maxLen := h _ (List.getElem_mem hi)

theorem At.kept {w w' : World} {b off : Nat} {t : List C} (h : At w b off t) (hb : w'.heap[b]? = w.heap[b]?) : At w' b off t := fun i hi =>
  ⟨(World.cell?_of_block (a := ⟨b, _, none⟩) hb).trans (h i hi).1, (World.cell?_of_block (a := ⟨b, _, none⟩) hb).trans (h i hi).2.1, (World.cell?_of_block (a := ⟨b, _, none⟩) hb).trans (h i hi).2.2⟩

theorem At.lt {w : World} {b off : Nat} {t : List C} (h : At w b off t) (hl : 0 < t.length) : b < w.heap.size :=
  World.block_lt_of_cell? w ⟨b, _, none⟩ (h 0 hl).1

theorem At.below {w w' : World} {b off : Nat} {t : List C} (h : At w b off t) (hb : Below w.heap.size w w') : At w' b off t := fun i hi =>
  (h.kept (hb.block b (h.lt (by omega)))) i hi

theorem Row.below {w w' : World} {ao : Option Addr} {t : List C} (h : Row w ao t) (hb : Below w.heap.size w w') : Row w' ao t := by
  rcases h with h | ⟨b, off, e, h⟩
  · exact .inl h
  · exact .inr ⟨b, off, e, h.below hb⟩

/-- One call behind another: what was there ahead of both is as it was. -/
theorem bstep {w w1 w2 : World} (h : Below w.heap.size w w1) (k : Below w1.heap.size w1 w2) : Below w.heap.size w w2 := h.trans (k.mono h.size)
end Go.Proofs.YthelpghiafbejaaDoor

/- Arguments of the laws, opened: places that came in (a slice of structs of three fields). -/
namespace Go.Proofs.YthelpghiafbejaaDoor
open Go.RowKit Go.Deep Go.ChangeShapes Go.WideShapes
set_option linter.unusedVariables false
set_option linter.unusedSimpArgs false

theorem own_knob : ownKnob Tryd.prog.godebug = none := by kernel_rfl
theorem laid_out : laidOutB Tryd.prog = true := by kernel_rfl
theorem Tryd.cellsInt : Tryd.prog.cellsOf 3 = 1 := by kernel_rfl
theorem Tryd.cellsStr : Tryd.prog.cellsOf 9 = 1 := by kernel_rfl

theorem add_zero_spot {b off : Nat} (i : Nat) : (⟨b, off, none⟩ : Addr).add i = ⟨b, off + i, none⟩ := by
  unfold Addr.add
  by_cases h : i = 0
  · simp [h]
  · simp [h]

theorem choose_C {n : Nat} {p : Nat → C → Prop} (h : ∀ i, i < n → ∃ x, p i x) : ∃ f : Nat → C, ∀ i, i < n → p i (f i) := by
  classical
  refine ⟨fun i => if hi : i < n then Classical.choose (h i hi) else ⟨0, 0, ByteArray.empty⟩, fun i hi => ?_⟩
  simp only [dif_pos hi]
  exact Classical.choose_spec (h i hi)

/-- All numbers of places fit an int. -/
def WfC (t : List C) : Prop := ∀ c ∈ t, (Lit.int .i64 c.k).wf = true ∧ (Lit.int .i64 c.n).wf = true

end Go.Proofs.YthelpghiafbejaaDoor

/- Arguments of the laws, opened: bytes that came in. -/
namespace Go.Proofs.YthelpghiafbejaaDoor
open Go.RowKit Go.Deep Go.ChangeShapes Go.WideShapes
set_option linter.unusedVariables false
set_option linter.unusedSimpArgs false

/-- Bytes that came in. -/
def Bin (w : World) (a : Option Addr) (len cap : Nat) (z : Nat → Int) : Prop :=
  len ≤ cap ∧ cap ≤ maxLen ∧ (∀ i, 0 ≤ z i ∧ z i ≤ 255) ∧ (len = 0 ∨ ∃ b off, a = some ⟨b, off, none⟩ ∧ ∀ i, i < len → w.cell? ⟨b, off + i, none⟩ = some (.int .u8 (z i)))

theorem Tryd.cellsByte : Tryd.prog.cellsOf 5 = 1 := by kernel_rfl

/-- A slice of bytes that came in leads to bytes. -/
theorem open_bytes {H : Type} {enc : TypeId × Value → H} {W : World} {a : Option Addr} {len cap : Nat} {d : DataW H} {p : List MemPlace}
    (h : DataW.Trod enc Tryd.prog W 0 (fun _ => true) true 28 (.slice a len cap) d p) : ∃ z, Bin W a len cap z := by
  obtain ⟨fuel, hf⟩ := h
  rcases open_ints Tryd.underlying28 Tryd.underlying5 Tryd.cellsByte hf with ⟨hcs, _⟩ | ⟨x, l, c, zs, hcs, _, hl, hm, hz, _, hcell, hwz⟩
  · simp [Value.cells] at hcs
    obtain ⟨rfl, rfl, rfl⟩ := hcs
    exact ⟨fun _ => 0, Nat.le_refl _, by simp [maxLen], fun _ => ⟨by simp, by simp⟩, .inl rfl⟩
  · simp [Value.cells] at hcs
    obtain ⟨rfl, rfl, rfl⟩ := hcs
    have hzl : zs.length = cap := by simpa using hz
    have hb : ∀ i, 0 ≤ zs.getD i 0 ∧ zs.getD i 0 ≤ 255 := fun i => by
      by_cases hi : i < zs.length
      · have hm' : zs.getD i 0 ∈ zs := by rw [show zs.getD i 0 = zs[i] by simp [List.getD, hi]]; exact List.getElem_mem hi
        have hw' := hwz _ hm'
        generalize zs.getD i 0 = y at hw' ⊢
        simpa [Lit.wf, IntKind.min, IntKind.max, IntKind.signed, IntKind.bits] using hw'
      · rw [show zs.getD i 0 = 0 by simp [List.getD, hi]]; omega
    refine ⟨fun i => zs.getD i 0, hl, hm, hb, ?_⟩
    by_cases h0 : len = 0
    · exact .inl h0
    · right
      obtain ⟨b, off, spot⟩ := x
      have hsp : spot = none := by
        have := hcell 0 (by omega)
        simpa [Addr.add] using World.cell?_spot this
      subst hsp
      refine ⟨b, off, rfl, fun i hi => ?_⟩
      have := hcell i (by omega)
      rwa [add_zero_spot] at this
end Go.Proofs.YthelpghiafbejaaDoor
