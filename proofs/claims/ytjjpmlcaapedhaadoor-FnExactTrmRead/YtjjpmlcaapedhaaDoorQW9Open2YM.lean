import Derived.Test.YtjjpmlcaapedhaaDoorQW1
import Derived.Test.YtjjpmlcaapedhaaDoorQMem2Mem3
import Derived.Deep.QuietTactic
import Derived.BigQuiet
import Derived.WalkSmall
import Derived.Test.YtjjpmlcaapedhaaDoorQPlainMemOpen
/- The walks of eqIntS, caInts, markIntS, heldIntS. -/
namespace Go.Proofs.YtjjpmlcaapedhaaDoor
open Go.RowKit
set_option linter.unusedVariables false
set_option linter.unusedSimpArgs false

theorem decide_eq_no {z y : List Int} (h : z ≠ y) : decide (z = y) = false := by simpa using h
theorem decide_eq_yes {z y : List Int} (h : z = y) : decide (z = y) = true := by simpa using h

/-- What markIntS writes. -/
def marksI (n : Nat) (k : Int) : List Int := (List.range n).map fun i : Nat => k + (i : Int)

theorem marksI_length (n : Nat) (k : Int) : (marksI n k).length = n := by simp [marksI]
theorem marksI_get {n i : Nat} {k : Int} (h : i < (marksI n k).length) : (marksI n k)[i] = k + i := by simp [marksI]

theorem setI_take (xs : List Value) (j : Nat) (k : Int) (h : j < xs.length) (hx : xs.take j = nums (marksI j k)) : (xs.set j (.int .i64 (k + j))).take (j + 1) = nums (marksI (j + 1) k) := by
  rw [List.take_succ_eq_append_getElem (by simpa using h), List.take_set_of_le (by omega), hx]
  simp [nums, marksI, List.range_succ]

theorem grown_refl (w : World) (row : Option Nat) : w.grownBy w row := ⟨rfl, rfl, rfl, Nat.le_refl _, fun _ _ _ => rfl⟩
theorem grown_trans {a b c : World} {row : Option Nat} (h : a.grownBy b row) (k : b.grownBy c row) : a.grownBy c row :=
  ⟨k.os.trans h.os, k.tape.trans h.tape, k.output.trans h.output, Nat.le_trans h.size k.size, fun i hi hn => (k.block i (Nat.lt_of_lt_of_le hi h.size) hn).trans (h.block i hi hn)⟩
theorem grown_below {a b : World} {row : Option Nat} (h : Below a.heap.size a b) : a.grownBy b row := ⟨h.os, h.tape, h.output, h.size, fun i hi _ => h.block i hi⟩

end Go.Proofs.YtjjpmlcaapedhaaDoor

/- Arguments of the laws, opened: bytes that came in. -/
namespace Go.Proofs.YtjjpmlcaapedhaaDoor
open Go.RowKit Go.Deep Go.ChangeShapes Go.WideShapes
set_option linter.unusedVariables false
set_option linter.unusedSimpArgs false

/-- Bytes that came in. -/
def Bin (w : World) (a : Option Addr) (len cap : Nat) (z : Nat → Int) : Prop :=
  len ≤ cap ∧ cap ≤ maxLen ∧ (∀ i, 0 ≤ z i ∧ z i ≤ 255) ∧ (len = 0 ∨ ∃ b off, a = some ⟨b, off, none⟩ ∧ ∀ i, i < len → w.cell? ⟨b, off + i, none⟩ = some (.int .u8 (z i)))

theorem Tryd.cellsByte : Tryd.prog.cellsOf 5 = 1 := by kernel_rfl

/-- A slice of bytes that came in leads to bytes. -/
theorem open_bytes {H : Type} {enc : TypeId × Value → H} {W : World} {a : Option Addr} {len cap : Nat} {d : DataW H} {p : List MemPlace}
    (h : DataW.Trod enc Tryd.prog W 0 (fun _ => true) true 22 (.slice a len cap) d p) : ∃ z, Bin W a len cap z := by
  obtain ⟨fuel, hf⟩ := h
  rcases open_ints Tryd.underlying22 Tryd.underlying5 Tryd.cellsByte hf with ⟨hcs, _⟩ | ⟨x, l, c, zs, hcs, _, hl, hm, hz, _, hcell, hwz⟩
  · simp [Value.cells] at hcs
    obtain ⟨rfl, rfl, rfl⟩ := hcs
    exact ⟨fun _ => 0, Nat.le_refl _, by simp [maxLen], fun _ => ⟨by simp, by simp⟩, .inl rfl⟩
  · simp [Value.cells] at hcs
    obtain ⟨rfl, rfl, rfl⟩ := hcs
    have hzl : zs.length = cap := by simpa using hz
    have hb : ∀ i, 0 ≤ zs.getD i 0 ∧ zs.getD i 0 ≤ 255 := fun i => by
      by_cases hi : i < zs.length
      · have hm' : zs.getD i 0 ∈ zs := by rw [show zs.getD i 0 = zs[i] by simp [List.getD, hi]]; exact List.getElem_mem hi
        have hw' := hwz _ hm'
        generalize zs.getD i 0 = y at hw' ⊢
        simpa [Lit.wf, IntKind.min, IntKind.max, IntKind.signed, IntKind.bits] using hw'
      · rw [show zs.getD i 0 = 0 by simp [List.getD, hi]]; omega
    refine ⟨fun i => zs.getD i 0, hl, hm, hb, ?_⟩
    by_cases h0 : len = 0
    · exact .inl h0
    · right
      obtain ⟨b, off, spot⟩ := x
      have hsp : spot = none := by
        have := hcell 0 (by omega)
        simpa [Addr.add] using World.cell?_spot this
      subst hsp
      refine ⟨b, off, rfl, fun i hi => ?_⟩
      have := hcell i (by omega)
      rwa [add_zero_spot] at this
end Go.Proofs.YtjjpmlcaapedhaaDoor

/- Bytes in memory: a slice that leads to them, and what owns them. -/
namespace Go.Proofs.YtjjpmlcaapedhaaDoor
open Go.RowKit
set_option linter.unusedVariables false
set_option linter.unusedSimpArgs false

/-- All are bytes. -/
def ByL (z : List Int) : Prop := ∀ x ∈ z, 0 ≤ x ∧ x ≤ 255
def AtY (w : World) (b off : Nat) (z : List Int) : Prop := ∀ i, (h : i < z.length) → w.cell? ⟨b, off + i, none⟩ = some (.int .u8 z[i])
def RowY (w : World) (ao : Option Addr) (z : List Int) : Prop := z = [] ∨ ∃ b off, ao = some ⟨b, off, none⟩ ∧ AtY w b off z

theorem ByL.get {z : List Int} (h : ByL z) (i : Nat) (hi : i < z.length) : 0 ≤ z[i] ∧ z[i] ≤ 255 := h _ (List.getElem_mem hi)
theorem ByL.nil : ByL [] := fun x h => by cases h
theorem ByL.one {x : Int} (h : 0 ≤ x ∧ x ≤ 255) : ByL [x] := fun y hy => by simp at hy; subst hy; exact h
theorem ByL.app {a b : List Int} (ha : ByL a) (hb : ByL b) : ByL (a ++ b) := fun x hx => by
  rcases List.mem_append.1 hx with h | h
  · exact ha x h
  · exact hb x h
theorem ByL.take {a : List Int} (ha : ByL a) (k : Nat) : ByL (a.take k) := fun x hx => ha x (List.mem_of_mem_take hx)
theorem ByL.drop {a : List Int} (ha : ByL a) (k : Nat) : ByL (a.drop k) := fun x hx => ha x (List.mem_of_mem_drop hx)

theorem AtY.below {w w' : World} {b off : Nat} {z : List Int} (h : AtY w b off z) (hb : Below w.heap.size w w') : AtY w' b off z := fun i hi =>
  (hb.cell (p := ⟨b, off + i, none⟩) (World.block_lt_of_cell? w ⟨b, _, none⟩ (h i hi))).trans (h i hi)
theorem RowY.below {w w' : World} {ao : Option Addr} {z : List Int} (h : RowY w ao z) (hb : Below w.heap.size w w') : RowY w' ao z := by
  rcases h with h | ⟨b, off, e, h⟩
  · exact .inl h
  · exact .inr ⟨b, off, e, h.below hb⟩
theorem AtY.lt {w : World} {b off : Nat} {z : List Int} (h : AtY w b off z) (hl : 0 < z.length) : b < w.heap.size :=
  World.block_lt_of_cell? w ⟨b, _, none⟩ (h 0 hl)
theorem AtY.take {w : World} {b off : Nat} {z : List Int} (h : AtY w b off z) (k : Nat) : AtY w b off (z.take k) := fun i hi => by
  have hi' : i < z.length := by simp at hi; omega
  rw [List.getElem_take]
  exact h i hi'
theorem AtY.drop {w : World} {b off : Nat} {z : List Int} (h : AtY w b off z) (k : Nat) : AtY w b (off + k) (z.drop k) := fun i hi => by
  have hi' : k + i < z.length := by simp at hi; omega
  rw [List.getElem_drop, Nat.add_assoc]
  exact h (k + i) hi'
theorem RowY.of_at {w : World} {b off : Nat} {z : List Int} (h : AtY w b off z) : RowY w (some ⟨b, off, none⟩) z := .inr ⟨b, off, rfl, h⟩

/-- The bytes as they lie. -/
def bys (z : List Int) : List Value := z.map (Value.int .u8)
theorem bys_length (z : List Int) : (bys z).length = z.length := by simp [bys]
theorem bys_get (z : List Int) (i : Nat) (h : i < z.length) : (bys z)[i]? = some (.int .u8 z[i]) := by simp [bys, h]
theorem bys_app (a b : List Int) : bys (a ++ b) = bys a ++ bys b := by simp [bys]
theorem bys_one (z : List Int) : ∀ u ∈ bys z, u.oneCell' = true := fun u hu => by
  obtain ⟨x, _, rfl⟩ := List.mem_map.1 hu
  rfl

/-- A slice value v owns the bytes z. -/
def OwnY (w : World) (base : Nat) (v : Value) (z : List Int) : Prop := w.ownsRow base 5 1 v z.length (bys z)

theorem ownsY_at {w : World} {base e g cap n : Nat} {z : List Int} (h : w.ownsRow base e 1 (.slice (some ⟨g, 0, none⟩) n cap) n (bys z)) (hn : n = z.length) : AtY w g 0 z := fun i hi => by
  have e0 := h.cellAt i (by omega)
  rw [Nat.zero_add]
  exact e0.trans (bys_get z i hi)

theorem OwnY.shape {w : World} {base : Nat} {v : Value} {z : List Int} (h : OwnY w base v z) : ∃ ao cap, v = .slice ao z.length cap ∧ RowY w ao z := by
  have h' := h
  rcases h.2 with ⟨e, hn⟩ | ⟨g, cap, cur, e, _⟩
  · refine ⟨none, 0, ?_, .inl (List.length_eq_zero_iff.1 hn)⟩
    rw [e, hn]
  · subst e
    exact ⟨_, _, rfl, .inr ⟨g, 0, rfl, ownsY_at h' rfl⟩⟩
theorem OwnY.row {w : World} {base : Nat} {ao : Option Addr} {n cap : Nat} {z : List Int} (h : OwnY w base (.slice ao n cap) z) : RowY w ao z := by
  obtain ⟨ao', cap', e, hR⟩ := h.shape
  simp only [Value.slice.injEq] at e
  obtain ⟨rfl, _, _⟩ := e
  exact hR
theorem OwnY.below {w w1 : World} {base : Nat} {v : Value} {z : List Int} (h : OwnY w base v z) (hb : Below w.heap.size w w1) : OwnY w1 base v z := own_below h hb
theorem OwnY.some {w : World} {base : Nat} {v : Value} {z : List Int} (h : OwnY w base v z) (hl : 0 < z.length) : ∃ g cap, v = .slice (some ⟨g, 0, none⟩) z.length cap ∧ base ≤ g ∧ g < w.heap.size ∧ AtY w g 0 z ∧ z.length ≤ cap ∧ cap ≤ maxLen := by
  have h' := h
  rcases h.2 with ⟨e, hn⟩ | ⟨g, cap, cur, e, hb, hg, hc, hm, _⟩
  · omega
  · subst e
    exact ⟨g, cap, rfl, hb, (Array.getElem?_eq_some_iff.1 hg).1, ownsY_at h' rfl, hc, hm⟩

/-- Bytes that came in are a list of bytes. -/
theorem Bin.list {w : World} {a : Option Addr} {len cap : Nat} {z : Nat → Int} (h : Bin w a len cap z) : ∃ y : List Int, y.length = len ∧ ByL y ∧ RowY w a y ∧ len ≤ cap ∧ cap ≤ maxLen := by
  obtain ⟨h1, h2, h3, h4⟩ := h
  refine ⟨(List.range len).map z, by simp, ?_, ?_, h1, h2⟩
  · intro x hx
    obtain ⟨i, _, rfl⟩ := List.mem_map.1 hx
    exact h3 i
  · rcases h4 with rfl | ⟨b, off, e, hc⟩
    · exact .inl rfl
    · refine .inr ⟨b, off, e, fun i hi => ?_⟩
      have hi' : i < len := by simpa using hi
      simpa using hc i hi'
end Go.Proofs.YtjjpmlcaapedhaaDoor
