import Derived.Test.YthelpghiafbejaaDoorQMem2Mem3W9
import Derived.Test.YthelpghiafbejaaDoorQYM
import Derived.OwnWalk
import Derived.Deep.AppendLies
/- The walks of eqByteS, caBytes, markByteS, heldByteS, toByteS. -/
namespace Go.Proofs.YthelpghiafbejaaDoor
open Go.RowKit
set_option linter.unusedVariables false
set_option linter.unusedSimpArgs false

/-- What markByteS writes. -/
def marksY (n : Nat) (k : Int) : List Int := (List.range n).map fun i : Nat => (k + (i : Int)) % 256

theorem marksY_length (n : Nat) (k : Int) : (marksY n k).length = n := by simp [marksY]
theorem marksY_get {n i : Nat} {k : Int} (h : i < (marksY n k).length) : (marksY n k)[i] = (k + i) % 256 := by simp [marksY]

theorem setY_take (xs : List Value) (j : Nat) (k : Int) (h : j < xs.length) (hx : xs.take j = bys (marksY j k)) : (xs.set j (.int .u8 ((k + j) % 256))).take (j + 1) = bys (marksY (j + 1) k) := by
  rw [List.take_succ_eq_append_getElem (by simpa using h), List.take_set_of_le (by omega), hx]
  simp [bys, marksY, List.range_succ]

theorem Tryd.infoByte : (Tryd.prog.info? 5).map (fun i => (i.zero, i.size, i.bytes)) = some (some (.int .u8 0), 1, 1) := by kernel_rfl

theorem toY_round {w wr : World} {g n k : Nat} {xs : List Value} {z : List Int} {x : Int} (hk : k < z.length) (hc : x = z[k]) (hn : n = z.length)
    (hown : wr.ownsRow w.heap.size 5 1 (.slice (some ⟨g, 0, none⟩) n n) n xs) (hx : xs.take k = bys (z.take k)) (hB : Below w.heap.size w wr) :
    ∃ xs', (wr.setCell ⟨g, k, none⟩ (.int .u8 x)).ownsRow w.heap.size 5 1 (.slice (some ⟨g, 0, none⟩) n n) n xs' ∧ xs'.take (k + 1) = bys (z.take (k + 1)) ∧ Below w.heap.size w (wr.setCell ⟨g, k, none⟩ (.int .u8 x)) := by
  have hgb : w.heap.size ≤ g ∧ g < wr.heap.size := hown.lt g rfl
  have hl : xs.length = n * 1 := hown.1
  refine ⟨_, (hown.stored k (.int .u8 x)).1, ?_, hB.setCell (p := ⟨g, _, none⟩) hgb.1 _⟩
  rw [List.take_succ_eq_append_getElem (by simp; omega), List.take_set_of_le (by omega), hx, List.take_succ_eq_append_getElem hk, bys_app, ← hc]
  simp [bys]

end Go.Proofs.YthelpghiafbejaaDoor

/- Numbers in bytes: appendHigh, appendNumber of the program, l6Put of the specification. -/
namespace Go.Proofs.YthelpghiafbejaaDoor
open Go.RowKit
set_option linter.unusedVariables false
set_option linter.unusedSimpArgs false
attribute [-go_sem] Go.Builtin.append_

/-- From v in w to v' in w': only v's own block has been written, and v' lies there or in new memory. -/
def Grew (w : World) (v : Value) (w' : World) (v' : Value) : Prop := w.grownBy w' v.ownBlock ∧ ∀ k, v'.ownBlock = some k → v.ownBlock = some k ∨ w.heap.size ≤ k
theorem Grew.refl (w : World) (v : Value) : Grew w v w v := ⟨grown_refl _ _, fun k h => .inl h⟩
theorem Grew.trans {w w1 w2 : World} {v v1 v2 : Value} (h : Grew w v w1 v1) (k : Grew w1 v1 w2 v2) : Grew w v w2 v2 := by
  refine ⟨⟨k.1.os.trans h.1.os, k.1.tape.trans h.1.tape, k.1.output.trans h.1.output, Nat.le_trans h.1.size k.1.size, fun i hi hn => ?_⟩, fun j hj => ?_⟩
  · refine (k.1.block i (Nat.lt_of_lt_of_le hi h.1.size) (fun e => ?_)).trans (h.1.block i hi hn)
    rcases h.2 i e.symm with h' | h'
    · exact hn h'.symm
    · omega
  · rcases k.2 j hj with h' | h'
    · exact h.2 j h'
    · exact .inr (Nat.le_trans h.1.size h')
theorem Grew.below {w w' : World} {v v' : Value} {base e size n : Nat} {xs : List Value} (h : Grew w v w' v') (ho : w.ownsRow base e size v n xs) (hb : base ≤ w.heap.size) : Below base w w' :=
  ((Below.refl _ w).mono hb |>.grown h.1 hb (fun k e => (ho.lt k e).1))
/-- A cell of another block than v's own is as it was. -/
theorem Grew.cell {w w' : World} {v v' : Value} (h : Grew w v w' v') {a : Addr} (hl : a.block < w.heap.size) (hn : v.ownBlock ≠ some a.block) : w'.cell? a = w.cell? a :=
  World.cell?_of_block (h.1.block a.block hl (fun e => hn e.symm))

/-- A byte of a number. -/
def hiB (n : Int) (k : Nat) : Int := (n / (2 : Int) ^ (8 * k)) % 256
def highs (n : Int) (s : Nat) : List Int := (List.range s).map fun j => hiB n (s - 1 - j)
theorem highs_length (n : Int) (s : Nat) : (highs n s).length = s := by simp [highs]
theorem highs_step {n : Int} {s j : Nat} (h : j < s) : (highs n s).take (j + 1) = (highs n s).take j ++ [hiB n (s - 1 - j)] := by
  rw [List.take_succ_eq_append_getElem (by simpa [highs] using h)]
  simp [highs]
theorem hiB_in (n : Int) (k : Nat) : 0 ≤ hiB n k ∧ hiB n k ≤ 255 := by
  unfold hiB
  have h1 := Int.emod_nonneg (n / (2 : Int) ^ (8 * k)) (show (256 : Int) ≠ 0 by omega)
  have h2 := Int.emod_lt_of_pos (n / (2 : Int) ^ (8 * k)) (show (0 : Int) < 256 by omega)
  omega
theorem highs_by (n : Int) (s : Nat) : ByL (highs n s) := fun x hx => by
  obtain ⟨j, _, rfl⟩ := List.mem_map.1 hx
  exact hiB_in n _

/-- One byte appended. -/
theorem app_byte {w1 : World} {v' : Value} {z : List Int} {x : Int} {base : Nat}
    (hown' : w1.ownsRow base 5 1 v' (z.length + 1) (bys z ++ [.int .u8 x])) : OwnY w1 base v' (z ++ [x]) := by
  unfold OwnY
  rw [show (z ++ [x]).length = z.length + 1 by simp, bys_app]
  exact hown'

/-- The run of an append of one new byte. -/
theorem app_one (w : World) (base : Nat) (v : Value) (z : List Int) (x : Int) (hO : OwnY w base v z) (hb : base ≤ w.heap.size) (hz : z.length ≤ 4194304) :
    ∃ v' w', (Builtin.append_ #[28, 28] 28 #[v, .slice (some ⟨w.heap.size, 0, none⟩) 1 1]).run Tryd.prog (w.alloc (.cells #[.int .u8 x] 5)) = .ok v' w' ∧ OwnY w' base v' (z ++ [x]) ∧ Grew w v w' v' := by
  obtain ⟨i0, hi, hz0, hz1, hz2⟩ := info_parts Tryd.infoByte
  obtain ⟨g, cap, w1, hr, ho, hg, hat, _⟩ := run_append_lies (P := Tryd.prog) (w.alloc (.cells #[.int .u8 x] 5)) 28 28 base 5 i0 _ 1 1 Tryd.underlying28 hi hz0 hz1 hz2 rfl (by decide) v z.length _ (World.ownsRow.alloc hO _) ⟨w.heap.size, 0, none⟩ 1 1 [.int .u8 x] rfl (cell_one_new _ _ _) (by simp [Value.oneCell']) (by omega) (by unfold maxLen; omega) (by omega) (by simp; omega) _ rfl
  refine ⟨_, _, hr, app_byte ho, ⟨?_, ?_⟩⟩
  · exact grown_trans (grown_below (cell_below _ _)) hg
  · intro k hk
    have e : g = k := by simpa [Value.ownBlock] using hk
    subst e
    rcases hat with h | h
    · exact .inl h
    · right; rw [h]; simp

theorem hiB0 (n : Int) : hiB n 0 = n % 256 := by simp [hiB]
theorem hiB1 (n : Int) : hiB n 1 = n / 256 % 256 := by simp [hiB]
theorem hiB2 (n : Int) : hiB n 2 = n / 65536 % 256 := by simp [hiB]

end Go.Proofs.YthelpghiafbejaaDoor
