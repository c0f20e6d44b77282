import Derived.Test.YtoanmnmodlocgaaDoorQMem2Mem3W9
import Derived.Test.YtoanmnmodlocgaaDoorQOpenOpen2
import Derived.OwnWalk
import Derived.Deep.AppendLies
/- Bytes in memory: a slice that leads to them, and what owns them. -/
namespace Go.Proofs.YtoanmnmodlocgaaDoor
open Go.RowKit
set_option linter.unusedVariables false
set_option linter.unusedSimpArgs false

/-- All are bytes. -/
def ByL (z : List Int) : Prop := ∀ x ∈ z, 0 ≤ x ∧ x ≤ 255
def AtY (w : World) (b off : Nat) (z : List Int) : Prop := ∀ i, (h : i < z.length) → w.cell? ⟨b, off + i, none⟩ = some (.int .u8 z[i])
def RowY (w : World) (ao : Option Addr) (z : List Int) : Prop := z = [] ∨ ∃ b off, ao = some ⟨b, off, none⟩ ∧ AtY w b off z

theorem ByL.get {z : List Int} (h : ByL z) (i : Nat) (hi : i < z.length) : 0 ≤ z[i] ∧ z[i] ≤ 255 := h _ (List.getElem_mem hi)
theorem ByL.nil : ByL [] := fun x h => by cases h
theorem ByL.one {x : Int} (h : 0 ≤ x ∧ x ≤ 255) : ByL [x] := fun y hy => by simp at hy; subst hy; exact h
theorem ByL.app {a b : List Int} (ha : ByL a) (hb : ByL b) : ByL (a ++ b) := fun x hx => by
  rcases List.mem_append.1 hx with h | h
  · exact ha x h
  · exact hb x h
theorem ByL.take {a : List Int} (ha : ByL a) (k : Nat) : ByL (a.take k) := fun x hx => ha x (List.mem_of_mem_take hx)
theorem ByL.drop {a : List Int} (ha : ByL a) (k : Nat) : ByL (a.drop k) := fun x hx => ha x (List.mem_of_mem_drop hx)

theorem AtY.below {w w' : World} {b off : Nat} {z : List Int} (h : AtY w b off z) (hb : Below w.heap.size w w') : AtY w' b off z := fun i hi =>
  (hb.cell (p := ⟨b, off + i, none⟩) (World.block_lt_of_cell? w ⟨b, _, none⟩ (h i hi))).trans (h i hi)
theorem RowY.below {w w' : World} {ao : Option Addr} {z : List Int} (h : RowY w ao z) (hb : Below w.heap.size w w') : RowY w' ao z := by
  rcases h with h | ⟨b, off, e, h⟩
  · exact .inl h
  · exact .inr ⟨b, off, e, h.below hb⟩
theorem AtY.lt {w : World} {b off : Nat} {z : List Int} (h : AtY w b off z) (hl : 0 < z.length) : b < w.heap.size :=
  World.block_lt_of_cell? w ⟨b, _, none⟩ (h 0 hl)
theorem AtY.take {w : World} {b off : Nat} {z : List Int} (h : AtY w b off z) (k : Nat) : AtY w b off (z.take k) := fun i hi => by
  have hi' : i < z.length := by simp at hi; omega
  rw [List.getElem_take]
  exact h i hi'
theorem AtY.drop {w : World} {b off : Nat} {z : List Int} (h : AtY w b off z) (k : Nat) : AtY w b (off + k) (z.drop k) := fun i hi => by
  have hi' : k + i < z.length := by simp at hi; omega
  rw [List.getElem_drop, Nat.add_assoc]
  exact h (k + i) hi'
theorem RowY.of_at {w : World} {b off : Nat} {z : List Int} (h : AtY w b off z) : RowY w (some ⟨b, off, none⟩) z := .inr ⟨b, off, rfl, h⟩

/-- The bytes as they lie. -/
def bys (z : List Int) : List Value := z.map (Value.int .u8)
theorem bys_length (z : List Int) : (bys z).length = z.length := by simp [bys]
theorem bys_get (z : List Int) (i : Nat) (h : i < z.length) : (bys z)[i]? = some (.int .u8 z[i]) := by simp [bys, h]
theorem bys_app (a b : List Int) : bys (a ++ b) = bys a ++ bys b := by simp [bys]
theorem bys_one (z : List Int) : ∀ u ∈ bys z, u.oneCell' = true := fun u hu => by
  obtain ⟨x, _, rfl⟩ := List.mem_map.1 hu
  rfl

/-- A slice value v owns the bytes z. -/
def OwnY (w : World) (base : Nat) (v : Value) (z : List Int) : Prop := w.ownsRow base 5 1 v z.length (bys z)

theorem ownsY_at {w : World} {base e g cap n : Nat} {z : List Int} (h : w.ownsRow base e 1 (.slice (some ⟨g, 0, none⟩) n cap) n (bys z)) (hn : n = z.length) : AtY w g 0 z := fun i hi => by
  have e0 := h.cellAt i (by omega)
  rw [Nat.zero_add]
  exact e0.trans (bys_get z i hi)

theorem OwnY.shape {w : World} {base : Nat} {v : Value} {z : List Int} (h : OwnY w base v z) : ∃ ao cap, v = .slice ao z.length cap ∧ RowY w ao z := by
  have h' := h
  rcases h.2 with ⟨e, hn⟩ | ⟨g, cap, cur, e, _⟩
  · refine ⟨none, 0, ?_, .inl (List.length_eq_zero_iff.1 hn)⟩
    rw [e, hn]
  · subst e
    exact ⟨_, _, rfl, .inr ⟨g, 0, rfl, ownsY_at h' rfl⟩⟩
theorem OwnY.row {w : World} {base : Nat} {ao : Option Addr} {n cap : Nat} {z : List Int} (h : OwnY w base (.slice ao n cap) z) : RowY w ao z := by
  obtain ⟨ao', cap', e, hR⟩ := h.shape
  simp only [Value.slice.injEq] at e
  obtain ⟨rfl, _, _⟩ := e
  exact hR
theorem OwnY.below {w w1 : World} {base : Nat} {v : Value} {z : List Int} (h : OwnY w base v z) (hb : Below w.heap.size w w1) : OwnY w1 base v z := own_below h hb
theorem OwnY.some {w : World} {base : Nat} {v : Value} {z : List Int} (h : OwnY w base v z) (hl : 0 < z.length) : ∃ g cap, v = .slice (some ⟨g, 0, none⟩) z.length cap ∧ base ≤ g ∧ g < w.heap.size ∧ AtY w g 0 z ∧ z.length ≤ cap ∧ cap ≤ maxLen := by
  have h' := h
  rcases h.2 with ⟨e, hn⟩ | ⟨g, cap, cur, e, hb, hg, hc, hm, _⟩
  · omega
  · subst e
    exact ⟨g, cap, rfl, hb, (Array.getElem?_eq_some_iff.1 hg).1, ownsY_at h' rfl, hc, hm⟩

/-- Bytes that came in are a list of bytes. -/
theorem Bin.list {w : World} {a : Option Addr} {len cap : Nat} {z : Nat → Int} (h : Bin w a len cap z) : ∃ y : List Int, y.length = len ∧ ByL y ∧ RowY w a y ∧ len ≤ cap ∧ cap ≤ maxLen := by
  obtain ⟨h1, h2, h3, h4⟩ := h
  refine ⟨(List.range len).map z, by simp, ?_, ?_, h1, h2⟩
  · intro x hx
    obtain ⟨i, _, rfl⟩ := List.mem_map.1 hx
    exact h3 i
  · rcases h4 with rfl | ⟨b, off, e, hc⟩
    · exact .inl rfl
    · refine .inr ⟨b, off, e, fun i hi => ?_⟩
      have hi' : i < len := by simpa using hi
      simpa using hc i hi'
end Go.Proofs.YtoanmnmodlocgaaDoor

/- The walks of eqByteS, caBytes, markByteS, heldByteS, toByteS. -/
namespace Go.Proofs.YtoanmnmodlocgaaDoor
open Go.RowKit
set_option linter.unusedVariables false
set_option linter.unusedSimpArgs false

/-- What markByteS writes. -/
def marksY (n : Nat) (k : Int) : List Int := (List.range n).map fun i : Nat => (k + (i : Int)) % 256

theorem marksY_length (n : Nat) (k : Int) : (marksY n k).length = n := by simp [marksY]
theorem marksY_get {n i : Nat} {k : Int} (h : i < (marksY n k).length) : (marksY n k)[i] = (k + i) % 256 := by simp [marksY]

theorem setY_take (xs : List Value) (j : Nat) (k : Int) (h : j < xs.length) (hx : xs.take j = bys (marksY j k)) : (xs.set j (.int .u8 ((k + j) % 256))).take (j + 1) = bys (marksY (j + 1) k) := by
  rw [List.take_succ_eq_append_getElem (by simpa using h), List.take_set_of_le (by omega), hx]
  simp [bys, marksY, List.range_succ]

theorem Tryd.infoByte : (Tryd.prog.info? 5).map (fun i => (i.zero, i.size, i.bytes)) = some (some (.int .u8 0), 1, 1) := by kernel_rfl

theorem toY_round {w wr : World} {g n k : Nat} {xs : List Value} {z : List Int} {x : Int} (hk : k < z.length) (hc : x = z[k]) (hn : n = z.length)
    (hown : wr.ownsRow w.heap.size 5 1 (.slice (some ⟨g, 0, none⟩) n n) n xs) (hx : xs.take k = bys (z.take k)) (hB : Below w.heap.size w wr) :
    ∃ xs', (wr.setCell ⟨g, k, none⟩ (.int .u8 x)).ownsRow w.heap.size 5 1 (.slice (some ⟨g, 0, none⟩) n n) n xs' ∧ xs'.take (k + 1) = bys (z.take (k + 1)) ∧ Below w.heap.size w (wr.setCell ⟨g, k, none⟩ (.int .u8 x)) := by
  have hgb : w.heap.size ≤ g ∧ g < wr.heap.size := hown.lt g rfl
  have hl : xs.length = n * 1 := hown.1
  refine ⟨_, (hown.stored k (.int .u8 x)).1, ?_, hB.setCell (p := ⟨g, _, none⟩) hgb.1 _⟩
  rw [List.take_succ_eq_append_getElem (by simp; omega), List.take_set_of_le (by omega), hx, List.take_succ_eq_append_getElem hk, bys_app, ← hc]
  simp [bys]

end Go.Proofs.YtoanmnmodlocgaaDoor

/- Numbers in bytes: appendHigh, appendNumber of the program, l6Put of the specification. -/
namespace Go.Proofs.YtoanmnmodlocgaaDoor
open Go.RowKit
set_option linter.unusedVariables false
set_option linter.unusedSimpArgs false
attribute [-go_sem] Go.Builtin.append_

/-- From v in w to v' in w': only v's own block has been written, and v' lies there or in new memory. -/
def Grew (w : World) (v : Value) (w' : World) (v' : Value) : Prop := w.grownBy w' v.ownBlock ∧ ∀ k, v'.ownBlock = some k → v.ownBlock = some k ∨ w.heap.size ≤ k
theorem Grew.refl (w : World) (v : Value) : Grew w v w v := ⟨grown_refl _ _, fun k h => .inl h⟩
theorem Grew.trans {w w1 w2 : World} {v v1 v2 : Value} (h : Grew w v w1 v1) (k : Grew w1 v1 w2 v2) : Grew w v w2 v2 := by
  refine ⟨⟨k.1.os.trans h.1.os, k.1.tape.trans h.1.tape, k.1.output.trans h.1.output, Nat.le_trans h.1.size k.1.size, fun i hi hn => ?_⟩, fun j hj => ?_⟩
  · refine (k.1.block i (Nat.lt_of_lt_of_le hi h.1.size) (fun e => ?_)).trans (h.1.block i hi hn)
    rcases h.2 i e.symm with h' | h'
    · exact hn h'.symm
    · omega
  · rcases k.2 j hj with h' | h'
    · exact h.2 j h'
    · exact .inr (Nat.le_trans h.1.size h')
theorem Grew.below {w w' : World} {v v' : Value} {base e size n : Nat} {xs : List Value} (h : Grew w v w' v') (ho : w.ownsRow base e size v n xs) (hb : base ≤ w.heap.size) : Below base w w' :=
  ((Below.refl _ w).mono hb |>.grown h.1 hb (fun k e => (ho.lt k e).1))
/-- A cell of another block than v's own is as it was. -/
theorem Grew.cell {w w' : World} {v v' : Value} (h : Grew w v w' v') {a : Addr} (hl : a.block < w.heap.size) (hn : v.ownBlock ≠ some a.block) : w'.cell? a = w.cell? a :=
  World.cell?_of_block (h.1.block a.block hl (fun e => hn e.symm))

/-- A byte of a number. -/
def hiB (n : Int) (k : Nat) : Int := (n / (2 : Int) ^ (8 * k)) % 256
def highs (n : Int) (s : Nat) : List Int := (List.range s).map fun j => hiB n (s - 1 - j)
theorem highs_length (n : Int) (s : Nat) : (highs n s).length = s := by simp [highs]
theorem highs_step {n : Int} {s j : Nat} (h : j < s) : (highs n s).take (j + 1) = (highs n s).take j ++ [hiB n (s - 1 - j)] := by
  rw [List.take_succ_eq_append_getElem (by simpa [highs] using h)]
  simp [highs]
theorem hiB_in (n : Int) (k : Nat) : 0 ≤ hiB n k ∧ hiB n k ≤ 255 := by
  unfold hiB
  have h1 := Int.emod_nonneg (n / (2 : Int) ^ (8 * k)) (show (256 : Int) ≠ 0 by omega)
  have h2 := Int.emod_lt_of_pos (n / (2 : Int) ^ (8 * k)) (show (0 : Int) < 256 by omega)
  omega
theorem highs_by (n : Int) (s : Nat) : ByL (highs n s) := fun x hx => by
  obtain ⟨j, _, rfl⟩ := List.mem_map.1 hx
  exact hiB_in n _

/-- One byte appended. -/
theorem app_byte {w1 : World} {v' : Value} {z : List Int} {x : Int} {base : Nat}
    (hown' : w1.ownsRow base 5 1 v' (z.length + 1) (bys z ++ [.int .u8 x])) : OwnY w1 base v' (z ++ [x]) := by
  unfold OwnY
  rw [show (z ++ [x]).length = z.length + 1 by simp, bys_app]
  exact hown'

/-- The run of an append of one new byte. -/
theorem app_one (w : World) (base : Nat) (v : Value) (z : List Int) (x : Int) (hO : OwnY w base v z) (hb : base ≤ w.heap.size) (hz : z.length ≤ 4194304) :
    ∃ v' w', (Builtin.append_ #[22, 22] 22 #[v, .slice (some ⟨w.heap.size, 0, none⟩) 1 1]).run Tryd.prog (w.alloc (.cells #[.int .u8 x] 5)) = .ok v' w' ∧ OwnY w' base v' (z ++ [x]) ∧ Grew w v w' v' := by
  obtain ⟨i0, hi, hz0, hz1, hz2⟩ := info_parts Tryd.infoByte
  obtain ⟨g, cap, w1, hr, ho, hg, hat, _⟩ := run_append_lies (P := Tryd.prog) (w.alloc (.cells #[.int .u8 x] 5)) 22 22 base 5 i0 _ 1 1 Tryd.underlying22 hi hz0 hz1 hz2 rfl (by decide) v z.length _ (World.ownsRow.alloc hO _) ⟨w.heap.size, 0, none⟩ 1 1 [.int .u8 x] rfl (cell_one_new _ _ _) (by simp [Value.oneCell']) (by omega) (by unfold maxLen; omega) (by omega) (by simp; omega) _ rfl
  refine ⟨_, _, hr, app_byte ho, ⟨?_, ?_⟩⟩
  · exact grown_trans (grown_below (cell_below _ _)) hg
  · intro k hk
    have e : g = k := by simpa [Value.ownBlock] using hk
    subst e
    rcases hat with h | h
    · exact .inl h
    · right; rw [h]; simp

theorem hiB0 (n : Int) : hiB n 0 = n % 256 := by simp [hiB]
theorem hiB1 (n : Int) : hiB n 1 = n / 256 % 256 := by simp [hiB]
theorem hiB2 (n : Int) : hiB n 2 = n / 65536 % 256 := by simp [hiB]

end Go.Proofs.YtoanmnmodlocgaaDoor
