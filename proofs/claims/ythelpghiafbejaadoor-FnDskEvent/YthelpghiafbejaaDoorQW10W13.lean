import Derived.Test.YthelpghiafbejaaDoorQW5
import Derived.Test.YthelpghiafbejaaDoorQMem2Mem3W9
import Derived.Lib.SmallJoins
import Derived.Laws.BytesString
import Derived.Test.YthelpghiafbejaaDoorQW11W12
/- The walks of markText, markTrmCellS, heldTrmCellS. -/
namespace Go.Proofs.YthelpghiafbejaaDoor
open Go.RowKit
set_option linter.unusedVariables false
set_option linter.unusedSimpArgs false

theorem ret_str {a b : ByteArray} (h : a = b) : Ending.returned (.string a) = .returned (.string b) := by rw [h]

def digs : Nat → Nat → List UInt8 → List UInt8
  | 0, _, acc => acc
  | f + 1, k, acc => if k = 0 then acc else digs f (k / 10) ((48 + UInt8.ofNat (k % 10)) :: acc)

theorem digs_more : ∀ (f k : Nat) (acc : List UInt8), k ≤ f → digs (f + 1) k acc = digs f k acc
  | 0, k, acc, h => by
      have : k = 0 := by omega
      subst this; rfl
  | f + 1, k, acc, h => by
      by_cases hk : k = 0
      · subst hk; simp [digs]
      · have ih := digs_more f (k / 10) ((48 + UInt8.ofNat (k % 10)) :: acc) (by omega)
        rw [digs, if_neg hk, ih, digs, if_neg hk]

theorem digs_fuel (f g k : Nat) (acc : List UInt8) (h : k ≤ f) (hg : f ≤ g) : digs g k acc = digs f k acc := by
  induction g with
  | zero => have : f = 0 := by omega
            subst this; rfl
  | succ g ih =>
    by_cases e : f = g + 1
    · subst e; rfl
    · rw [digs_more g k acc (by omega), ih (by omega)]

theorem digs_step (k : Nat) (acc : List UInt8) (h : 0 < k) : digs k k acc = digs (k / 10) (k / 10) ((48 + UInt8.ofNat (k % 10)) :: acc) := by
  cases k with
  | zero => omega
  | succ m => rw [digs, if_neg (by omega), digs_fuel ((m + 1) / 10) m _ _ (Nat.le_refl _) (by omega)]

/-- The text of a mark. -/
def mtext (k : Nat) : ByteArray := ⟨(109 :: digs k k []).toArray⟩

/-- 'string([]byte{x})', the one byte in a block that was just made. -/
theorem conv1 (W : World) (x : Int) : (convert 28 9 (.slice (some ⟨W.heap.size, 0, none⟩) 1 1)).run Tryd.prog (W.alloc (.cells #[.int .u8 x] 5)) = .ok (.string ⟨#[UInt8.ofNat x.toNat]⟩) (W.alloc (.cells #[.int .u8 x] 5)) := by
  rw [run_convert_bytes_string _ 28 9 5 _ 1 1 Tryd.underlying28 Tryd.underlying5 Tryd.underlying9]
  have hl := run_loadCells_list (P := Tryd.prog) (W.alloc (.cells #[.int .u8 x] 5)) ⟨W.heap.size, 0, none⟩ ([x].map (Value.int .u8)) (fun j v hj => by
    have hj' : j < 1 := by have := (List.getElem?_eq_some_iff.1 hj).1; simpa using this
    have h0 : j = 0 := by omega
    subst h0
    simp at hj
    subst hj
    simp [Addr.add, go_sem])
  simp only [List.length_map, List.length_cons, List.length_nil, Nat.zero_add] at hl
  rw [run_bytesToString _ _ 1 1 [x] hl]
  rfl

/-- What markTrmCellS writes. -/
def marksC (n k : Nat) : List C := (List.range n).map fun i => ⟨((k + 3 * i : Nat) : Int), ((k + 3 * i + 1 : Nat) : Int), mtext (k + 3 * i + 2)⟩

theorem marksC_length (n k : Nat) : (marksC n k).length = n := by simp [marksC]
theorem marksC_get {n k i : Nat} (h : i < (marksC n k).length) : (marksC n k)[i] = ⟨((k + 3 * i : Nat) : Int), ((k + 3 * i + 1 : Nat) : Int), mtext (k + 3 * i + 2)⟩ := by simp [marksC]
theorem marksC_succ (n k : Nat) : marksC (n + 1) k = marksC n k ++ [⟨((k + 3 * n : Nat) : Int), ((k + 3 * n + 1 : Nat) : Int), mtext (k + 3 * n + 2)⟩] := by simp [marksC, List.range_succ]

/-- What a round of markTrmCellS leaves. -/
theorem mark_round {w wr w3 : World} {g n cap j k base : Nat} {xs : List Value} (hj : j < n)
    (hown : wr.ownsRow base 45 3 (.slice (some ⟨g, 0, none⟩) n cap) n xs) (hx : xs.take (j * 3) = flat (marksC j k)) (hG : w.grownBy wr (some g))
    (u0 u1 : Int) (e0 : u0 = ((k + 3 * j : Nat) : Int)) (e1 : u1 = ((k + 3 * j + 1 : Nat) : Int))
    (hb3 : Below ((wr.setCell ⟨g, j * 3, none⟩ (.int .i64 u0)).setCell ⟨g, j * 3 + 1, none⟩ (.int .i64 u1)).heap.size ((wr.setCell ⟨g, j * 3, none⟩ (.int .i64 u0)).setCell ⟨g, j * 3 + 1, none⟩ (.int .i64 u1)) w3) :
    (∃ a, w3.cell? ⟨g, j * 3 + 2, none⟩ = some a) ∧ w3.frozen? ⟨g, j * 3 + 2, none⟩ = false ∧
    ∃ xs', (w3.setCell ⟨g, j * 3 + 2, none⟩ (.string (mtext (k + 3 * j + 2)))).ownsRow base 45 3 (.slice (some ⟨g, 0, none⟩) n cap) n xs' ∧
      xs'.take ((j + 1) * 3) = flat (marksC (j + 1) k) ∧ w.grownBy (w3.setCell ⟨g, j * 3 + 2, none⟩ (.string (mtext (k + 3 * j + 2)))) (some g) := by
  subst e0 e1
  have s1 := hown.stored (j * 3) (.int .i64 ((k + 3 * j : Nat) : Int))
  have s2 := s1.1.stored (j * 3 + 1) (.int .i64 ((k + 3 * j + 1 : Nat) : Int))
  have o3 := own_kept s2.1 hb3
  have s4 := o3.stored (j * 3 + 2) (.string (mtext (k + 3 * j + 2)))
  have hl : xs.length = n * 3 := hown.1
  refine ⟨⟨_, (o3.cellAt (j * 3 + 2) (by omega)).trans (List.getElem?_eq_getElem (by simp; omega))⟩, o3.frozenAt _, _, s4.1, ?_, ?_⟩
  · rw [set3_take xs j _ _ _ (by omega), hx, marksC_succ, flat_append]
    rfl
  · exact grown_trans (grown_trans (grown_trans (grown_trans hG s1.2) s2.2) (grown_below hb3)) s4.2

end Go.Proofs.YthelpghiafbejaaDoor

/- numberVars and TrmFree of whatever places; heldTrmCellS of whatever row; small laws on what is owned. -/
namespace Go.Proofs.YthelpghiafbejaaDoor
open Go.RowKit Go.Maps
set_option linter.unusedVariables false
set_option linter.unusedSimpArgs false

theorem OwnI.row {w : World} {base n cap : Nat} {ao : Option Addr} {z : List Int} (h : OwnI w base (.slice ao n cap) z) : RowI w ao z := by
  obtain ⟨ao', cap', e, hR⟩ := h.shape
  simp only [Value.slice.injEq] at e
  obtain ⟨rfl, _, _⟩ := e
  exact hR
theorem OwnC.row {w : World} {base n cap : Nat} {ao : Option Addr} {t : List C} (h : OwnC w base (.slice ao n cap) t) : Row w ao t := by
  obtain ⟨ao', cap', e, hR⟩ := h.shape
  simp only [Value.slice.injEq] at e
  obtain ⟨rfl, _, _⟩ := e
  exact hR

theorem OwnI.base {w : World} {base base' : Nat} {v : Value} {z : List Int} (h : OwnI w base v z) (hb : base' ≤ base) : OwnI w base' v z := by
  refine ⟨h.1, ?_⟩
  rcases h.2 with h2 | ⟨g, cap, cur, e, hg, r⟩
  · exact .inl h2
  · exact .inr ⟨g, cap, cur, e, Nat.le_trans hb hg, r⟩

/-- A write into a row that was made since: what lay ahead is as it was. -/
theorem below_row {a w w' : World} {base e size n : Nat} {v : Value} {xs : List Value} (h : Below a.heap.size a w) (hg : w.grownBy w' v.ownBlock) (ho : w.ownsRow base e size v n xs) (hb : a.heap.size ≤ base) : Below a.heap.size a w' :=
  h.grown hg h.size (fun k e => Nat.le_trans hb (ho.lt k e).1)

/-! Marks from 1 on, as the laws set them. -/

end Go.Proofs.YthelpghiafbejaaDoor
