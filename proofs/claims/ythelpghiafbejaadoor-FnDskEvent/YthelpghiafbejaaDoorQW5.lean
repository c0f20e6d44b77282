/- The walks of the laws' own helpers over places: szTrmCell(S), toTrmCell(S), eqTrmCell(S). -/
import Derived.Test.YthelpghiafbejaaDoorQW1
import Derived.Test.YthelpghiafbejaaDoorQMem2Mem3W9
import Derived.OwnWalk
import Derived.Deep.RegionWith
namespace Go.Proofs.YthelpghiafbejaaDoor
open Go.RowKit
set_option linter.unusedVariables false
set_option linter.unusedSimpArgs false

theorem below3 (w : World) (a b c : Obj) : Below w.heap.size w (((w.alloc a).alloc b).alloc c) :=
  (((Below.refl _ _).alloc (Nat.le_refl _) _).alloc (by simp) _).alloc (by simp; omega) _
theorem below2 (w : World) (a b : Obj) : Below w.heap.size w ((w.alloc a).alloc b) :=
  ((Below.refl _ _).alloc (Nat.le_refl _) _).alloc (by simp) _

theorem C_ext {c d : C} (h1 : c.k = d.k) (h2 : c.n = d.n) (h3 : c.s = d.s) : c = d := by
  cases c; cases d; simp_all

/-- Two places are the same. -/
def same (c d : C) : Bool := (c.k == d.k) && (c.n == d.n) && (c.s.data.toList == d.s.data.toList)

theorem bytes_ext {a b : ByteArray} (h : a.data.toList = b.data.toList) : a = b := by
  cases a; cases b
  simp only [ByteArray.mk.injEq]
  exact Array.toList_inj.1 h

theorem same_iff (c d : C) : same c d = true ↔ c = d := by
  unfold same
  simp only [Bool.and_eq_true, beq_iff_eq]
  constructor
  · rintro ⟨⟨h1, h2⟩, h3⟩
    exact C_ext h1 h2 (bytes_ext h3)
  · rintro rfl
    exact ⟨⟨rfl, rfl⟩, rfl⟩

theorem Tryd.infoCell : (Tryd.prog.info? 45).map (fun i => (i.zero, i.size, i.bytes)) = some (some (.agg #[.int .i64 0, .int .i64 0, .string ByteArray.empty]), 3, 32) := by kernel_rfl

/-- What a round of toTrmCellS leaves. -/
theorem own_kept {w w1 : World} {base e size n : Nat} {v : Value} {xs : List Value} (h : w.ownsRow base e size v n xs) (hb : Below w.heap.size w w1) : w1.ownsRow base e size v n xs := by
  refine h.kept (row := none) ⟨hb.os, hb.tape, hb.output, hb.size, fun j hj _ => hb.block j hj⟩ ?_
  cases v.ownBlock with
  | none => exact .inl rfl
  | some k => exact .inr (by simp)

theorem own_cells {w : World} {base e g n k : Nat} {xs : List Value} (h : w.ownsRow base e 3 (.slice (some ⟨g, 0, none⟩) n n) n xs) (hk : k < n) :
    ∃ a b c, w.cell? ⟨g, k * 3, none⟩ = some a ∧ w.cell? ⟨g, k * 3 + 1, none⟩ = some b ∧ w.cell? ⟨g, k * 3 + 2, none⟩ = some c := by
  have hl := h.1
  refine ⟨xs[k * 3]'(by omega), xs[k * 3 + 1]'(by omega), xs[k * 3 + 2]'(by omega), ?_, ?_, ?_⟩
  · rw [h.cellAt _ (by omega)]; exact List.getElem?_eq_getElem _
  · rw [h.cellAt _ (by omega)]; exact List.getElem?_eq_getElem _
  · rw [h.cellAt _ (by omega)]; exact List.getElem?_eq_getElem _

theorem to_round {w wr w1 : World} {g n k : Nat} {xs : List Value} {t : List C} {c : C} (hk : k < t.length) (hc : c = t[k]) (hn : n = t.length)
    (hown : wr.ownsRow w.heap.size 45 3 (.slice (some ⟨g, 0, none⟩) n n) n xs) (hx : xs.take (k * 3) = flat (t.take k)) (hb1 : Below wr.heap.size wr w1) (hB : Below w.heap.size w wr) :
    ∃ xs', (((w1.setCell ⟨g, k * 3, none⟩ (.int .i64 c.k)).setCell ⟨g, k * 3 + 1, none⟩ (.int .i64 c.n)).setCell ⟨g, k * 3 + 2, none⟩ (.string c.s)).ownsRow w.heap.size 45 3 (.slice (some ⟨g, 0, none⟩) n n) n xs' ∧
      xs'.take ((k + 1) * 3) = flat (t.take (k + 1)) ∧ Below w.heap.size w (((w1.setCell ⟨g, k * 3, none⟩ (.int .i64 c.k)).setCell ⟨g, k * 3 + 1, none⟩ (.int .i64 c.n)).setCell ⟨g, k * 3 + 2, none⟩ (.string c.s)) := by
  have hgb : w.heap.size ≤ g ∧ g < wr.heap.size := hown.lt g rfl
  have hown1 := own_kept hown hb1
  refine ⟨_, (((hown1.stored (k * 3) (.int .i64 c.k)).1.stored (k * 3 + 1) (.int .i64 c.n)).1.stored (k * 3 + 2) (.string c.s)).1, ?_, ?_⟩
  · have hl : xs.length = n * 3 := hown.1
    rw [set3_take xs k _ _ _ (by omega), hx, List.take_succ_eq_append_getElem hk, flat_append, ← hc]
    rfl
  · exact (((bstep hB hb1).setCell (p := ⟨g, _, none⟩) hgb.1 _).setCell (p := ⟨g, _, none⟩) hgb.1 _).setCell (p := ⟨g, _, none⟩) hgb.1 _

/-- Lists of places are the same. -/
def sameS (t u : List C) : Bool := decide (t.length = u.length) && (t.zip u).all fun p => same p.1 p.2

theorem sameS_iff : ∀ (t u : List C), sameS t u = true ↔ t = u
  | [], [] => by simp [sameS]
  | [], d :: u => by simp [sameS]
  | c :: t, [] => by simp [sameS]
  | c :: t, d :: u => by
      have ih := sameS_iff t u
      simp only [sameS, Bool.and_eq_true, decide_eq_true_eq] at ih
      simp only [sameS, List.length_cons, Bool.and_eq_true, decide_eq_true_eq, List.zip_cons_cons, List.all_cons, same_iff, List.cons.injEq]
      constructor
      · rintro ⟨h1, h2, h3⟩
        exact ⟨h2, ih.1 ⟨by omega, h3⟩⟩
      · rintro ⟨rfl, h⟩
        obtain ⟨h1, h3⟩ := ih.2 h
        exact ⟨by omega, rfl, h3⟩

theorem sameS_no {t u : List C} (h : t ≠ u) : sameS t u = false := by
  cases e : sameS t u with
  | false => rfl
  | true => exact absurd ((sameS_iff t u).1 e) h
theorem sameS_yes {t u : List C} (h : t = u) : sameS t u = true := (sameS_iff t u).2 h

end Go.Proofs.YthelpghiafbejaaDoor
