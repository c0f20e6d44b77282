/- The walk of l20Spoil. -/
import Derived.Test.YthelpghiafbejaaDoorQD4
import Derived.Deep.RegionWith
import Derived.Deep.DeepMust
namespace Go.Proofs.YthelpghiafbejaaDoor
open Go.RowKit
set_option linter.unusedVariables false
set_option linter.unusedSimpArgs false

theorem own_some {w : World} {base : Nat} {v : Value} {t : List C} (h : OwnC w base v t) (hl : 1 ≤ t.length) : ∃ g cap, v = .slice (some ⟨g, 0, none⟩) t.length cap ∧ base ≤ g ∧ g < w.heap.size ∧ t.length ≤ cap := by
  rcases h.2 with ⟨e, hn⟩ | ⟨g, cap, cur, e, hb, hg, hc, _⟩
  · omega
  · exact ⟨g, cap, e, hb, (Array.getElem?_eq_some_iff.1 hg).1, hc⟩

/-- What a write into a row of one's own leaves. -/
theorem drew_set {w W : World} {R p g cap : Nat} {t t' : List C} {xs : List Value} (hb : R < w.heap.size) (hg : w.grownBy W (some R)) (hR : Rd W R p) (hgb : w.heap.size ≤ g) (a : Addr) (ha : a.block = g) (u : Value) : w.grownBy (W.setCell a u) (some R) ∧ Rd (W.setCell a u) R p :=
  ⟨grown_set hg (by omega) u, hR.set (by omega) u⟩

theorem grown_undrew {w w4 : World} {row : Option Nat} (h : w.drew.grownBy w4 row) : w.grownBy w4 row := ⟨h.os, h.tape, h.output, h.size, h.block⟩
theorem cell_keep {w : World} {a : Addr} {v : Value} (h : w.cell? a = some v) (o : Obj) : (w.alloc o).cell? a = some v :=
  (World.cell?_of_block (Below.heap_alloc w o a.block (World.block_lt_of_cell? w a h))).trans h
theorem frozen_keep {w w4 : World} {R g off : Nat} (hG : w.grownBy w4 (some R)) (hg : g < w.heap.size) (hR : g ≠ R) (h : w.frozen? ⟨g, off, none⟩ = false) : w4.frozen? ⟨g, off, none⟩ = false :=
  (World.frozen?_of_block (a := ⟨g, off, none⟩) (hG.block g hg (by simpa using hR))).trans h
theorem frozen_keep2 {w w4 : World} {R g off : Nat} {o : Obj} (hG : (w.alloc o).grownBy w4 (some R)) (hg : g < w.heap.size) (hR : g ≠ R) (h : w.frozen? ⟨g, off, none⟩ = false) : w4.frozen? ⟨g, off, none⟩ = false :=
  (World.frozen?_of_block (a := ⟨g, off, none⟩) ((hG.block g (by simp; omega) (by simpa using hR)).trans (Below.heap_alloc w o g hg))).trans h

/-- The four numbers that may be added. -/
theorem lit4 (j : Nat) (hj : j < 4) : ∃ x : Int, -99999 ≤ x ∧ x ≤ 99999 ∧ (∀ W : World, (W.alloc (.cells #[.int .i64 1, .int .i64 (-1), .int .i64 99999, .int .i64 (-99999)] 3)).cell? ⟨W.heap.size, j, none⟩ = some (.int .i64 x)) ∧
    ∀ (W w2 : World) (R : Nat), R < W.heap.size → (W.alloc (.cells #[.int .i64 1, .int .i64 (-1), .int .i64 99999, .int .i64 (-99999)] 3)).grownBy w2 (some R) → w2.cell? ⟨W.heap.size, j, none⟩ = some (.int .i64 x) := by
  have hb : ∀ x ∈ ([1, -1, 99999, -99999] : List Int), -99999 ≤ x ∧ x ≤ 99999 := by decide
  have hx := hb _ (List.getElem_mem (l := [1, -1, 99999, -99999]) (n := j) (by simp; omega))
  exact ⟨([1, -1, 99999, -99999] : List Int)[j]'(by simp; omega), hx.1, hx.2, fun W => lit_ints W [1, -1, 99999, -99999] 3 j (by simp; omega), fun W w2 R hR hg => pick_lit (xs := [1, -1, 99999, -99999]) hR hg (by simp; omega)⟩

theorem drew_alloc {P : C → Prop} {w w' : World} {R p lo hi d : Nat} {e : Ending} (h : Drew P w R p lo hi d e w') (o : Obj) : Drew P w R p lo hi d e (w'.alloc o) := by
  obtain ⟨v, t, p', he, h1, h2, h3, h4, h5, h6, h7⟩ := h
  exact ⟨v, t, p', he, World.ownsRow.alloc h1 _, h2, h3, h4, h5.alloc _, h6, grown_trans h7 (grown_alloc _ _ _)⟩

theorem spoil_n {w W : World} {R p g cp k : Nat} {t : List C} {c : C} {x : Int} (hlt : R < w.heap.size) (hgb : w.heap.size ≤ g) (hk : k < t.length) (hc : c = t[k]) (hD : ∀ d ∈ t, Dc d) (hDs : Ds c) (hx0 : -99999 ≤ x) (hx1 : x ≤ 99999) (h40 : t.length ≤ 40)
    (hO : OwnC W w.heap.size (.slice (some ⟨g, 0, none⟩) t.length cp) t) (hR : Rd W R (p + 1 + 1 + 1)) (hg : w.grownBy W (some R)) :
    Drew Dc w R p 0 41 3 (.returned (.slice (some ⟨g, 0, none⟩) t.length cp)) (W.setCell ⟨g, k * 3 + 1, none⟩ (.int .i64 (IntKind.i64.wrap (c.n + x)))) := by
  have hds := hDs
  have hwr : IntKind.i64.wrap (c.n + x) = c.n + x := by
    obtain ⟨h1, h2, h3, h4, h5⟩ := hDs
    simp [IntKind.wrap, IntKind.bits, IntKind.signed]
    omega
  rw [hwr]
  have hst := (hO.stored (k * 3 + 1) (.int .i64 (c.n + x))).1
  rw [flat_set_n t k hk] at hst
  have hO5 : OwnC (W.setCell ⟨g, k * 3 + 1, none⟩ (.int .i64 (c.n + x))) w.heap.size (.slice (some ⟨g, 0, none⟩) t.length cp) (t.set k ⟨t[k].k, c.n + x, t[k].s⟩) := by unfold OwnC; rw [List.length_set]; exact hst
  obtain ⟨h1, h2, h3, h4, h5⟩ := hDs
  have hdc5 : Dc ⟨t[k].k, c.n + x, t[k].s⟩ := by rw [← hc]; exact dc_mk h1 h2 (by omega) (by omega) h5
  exact drew_mk hO5 (Nat.zero_le _) (by simp; omega) (all_set hD hdc5) (hR.set (by show R < g; omega) _) (by omega) (grown_set hg hgb _)

end Go.Proofs.YthelpghiafbejaaDoor
