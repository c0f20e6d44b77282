import Derived.Test.YthelpghiafbejaaDoorQD2D3
import Derived.Deep.RegionWith
import Derived.Deep.DeepMust
/- What is drawn: places that may be no term (l20Spoil), and either (l20TermOr). -/
namespace Go.Proofs.YthelpghiafbejaaDoor
open Go.RowKit
set_option linter.unusedVariables false
set_option linter.unusedSimpArgs false

theorem flat_set_k : ∀ (t : List C) (k : Nat) (h : k < t.length) (x : Int), (flat t).set (k * 3) (.int .i64 x) = flat (t.set k ⟨x, t[k].n, t[k].s⟩)
  | c :: t, 0, _, x => rfl
  | c :: t, k + 1, h, x => by
      have ih := flat_set_k t k (by simpa using h) x
      rw [flat_cons, show (k + 1) * 3 = k * 3 + 1 + 1 + 1 by omega, List.set_cons_succ, List.set_cons_succ, List.set_cons_succ, ih, List.set_cons_succ, flat_cons]
      rfl
theorem flat_set_n : ∀ (t : List C) (k : Nat) (h : k < t.length) (x : Int), (flat t).set (k * 3 + 1) (.int .i64 x) = flat (t.set k ⟨t[k].k, x, t[k].s⟩)
  | c :: t, 0, _, x => rfl
  | c :: t, k + 1, h, x => by
      have ih := flat_set_n t k (by simpa using h) x
      rw [flat_cons, show (k + 1) * 3 + 1 = k * 3 + 1 + 1 + 1 + 1 by omega, List.set_cons_succ, List.set_cons_succ, List.set_cons_succ, ih, List.set_cons_succ, flat_cons]
      rfl
theorem flat_set_s : ∀ (t : List C) (k : Nat) (h : k < t.length) (x : ByteArray), (flat t).set (k * 3 + 2) (.string x) = flat (t.set k ⟨t[k].k, t[k].n, x⟩)
  | c :: t, 0, _, x => rfl
  | c :: t, k + 1, h, x => by
      have ih := flat_set_s t k (by simpa using h) x
      rw [flat_cons, show (k + 1) * 3 + 2 = k * 3 + 2 + 1 + 1 + 1 by omega, List.set_cons_succ, List.set_cons_succ, List.set_cons_succ, ih, List.set_cons_succ, flat_cons]
      rfl
theorem flat_set3 (t : List C) (k : Nat) (h : k < t.length) (c : C) : (((flat t).set (k * 3) (.int .i64 c.k)).set (k * 3 + 1) (.int .i64 c.n)).set (k * 3 + 2) (.string c.s) = flat (t.set k c) := by
  rw [flat_set_k t k h, flat_set_n _ k (by simpa using h), flat_set_s _ k (by simpa using h)]
  simp

theorem flat_take (t : List C) (k : Nat) (h : k ≤ t.length) : (flat t).take (k * 3) = flat (t.take k) := by
  have e : flat t = flat (t.take k) ++ flat (t.drop k) := by rw [← flat_append, List.take_append_drop]
  rw [e, List.take_left' (by rw [flat_length]; simp; omega)]

theorem flat_one (t : List C) : ∀ u ∈ flat t, u.oneCell' = true := by
  intro u hu
  unfold flat at hu
  obtain ⟨c, _, hc⟩ := List.mem_flatMap.1 hu
  simp [cellsOf] at hc
  rcases hc with rfl | rfl | rfl <;> rfl

theorem all_set {P : C → Prop} {t : List C} {k : Nat} {c : C} (h : ∀ d ∈ t, P d) (hc : P c) : ∀ d ∈ t.set k c, P d := fun d hd => by
  rcases List.mem_or_eq_of_mem_set hd with h' | h'
  · exact h d h'
  · subst h'; exact hc

theorem At.each {w : World} {b off : Nat} {t : List C} (h : At w b off t) : ∀ j u, (flat t)[j]? = some u → w.cell? ((⟨b, off, none⟩ : Addr).add j) = some u := by
  intro j u hj
  have hl : j < t.length * 3 := by
    have := (List.getElem?_eq_some_iff.1 hj).1
    rw [flat_length] at this; exact this
  have hk : j / 3 < t.length := by omega
  have f := flat_get t (j / 3) hk
  have a := h (j / 3) hk
  have ad : (⟨b, off, none⟩ : Addr).add j = ⟨b, off + j, none⟩ := by
    unfold Addr.add
    by_cases h0 : j = 0
    · simp [h0]
    · simp [h0]
  rw [ad]
  obtain h0 | h0 | h0 : j = j / 3 * 3 ∨ j = j / 3 * 3 + 1 ∨ j = j / 3 * 3 + 2 := by omega
  · rw [h0, f.1] at hj; rw [h0, ← hj]; exact a.1
  · rw [h0, f.2.1] at hj; rw [h0, ← hj]; exact a.2.1
  · rw [h0, f.2.2] at hj; rw [h0, ← hj]; exact a.2.2

/-- A row of the call's own, behind its cut. -/
theorem own_cut {w : World} {base g cap k : Nat} {t : List C} (h : OwnC w base (.slice (some ⟨g, 0, none⟩) t.length cap) t) (hk : k ≤ t.length) : OwnC w base (.slice (some ⟨g, 0, none⟩) k cap) (t.take k) := by
  have hl : (t.take k).length = k := by simp; omega
  rcases h.2 with ⟨e, _⟩ | ⟨g', cap', cur, e, hb, hg, hn, hc, hcs, htake⟩
  · simp at e
  · simp only [Value.slice.injEq, Option.some.injEq, Addr.mk.injEq, and_true, true_and] at e
    obtain ⟨rfl, rfl⟩ := e
    unfold OwnC
    rw [hl]
    refine ⟨by rw [flat_length, hl], .inr ⟨g, cap, cur, rfl, hb, hg, by omega, hc, hcs, ?_⟩⟩
    rw [← flat_take t k hk, ← htake, List.take_take, Nat.min_eq_left (by omega)]

/-- A place of a row of the call's own. -/
theorem own_place {w : World} {base g cap k : Nat} {t : List C} (h : OwnC w base (.slice (some ⟨g, 0, none⟩) t.length cap) t) (hk : k < t.length) :
    w.cell? ⟨g, k * 3, none⟩ = some (.int .i64 t[k].k) ∧ w.cell? ⟨g, k * 3 + 1, none⟩ = some (.int .i64 t[k].n) ∧ w.cell? ⟨g, k * 3 + 2, none⟩ = some (.string t[k].s) ∧ w.frozen? ⟨g, k * 3, none⟩ = false ∧ w.frozen? ⟨g, k * 3 + 1, none⟩ = false ∧ w.frozen? ⟨g, k * 3 + 2, none⟩ = false := by
  have f := flat_get t k hk
  exact ⟨(h.cellAt (k * 3) (by omega)).trans f.1, (h.cellAt (k * 3 + 1) (by omega)).trans f.2.1, (h.cellAt (k * 3 + 2) (by omega)).trans f.2.2, h.frozenAt _, h.frozenAt _, h.frozenAt _⟩
end Go.Proofs.YthelpghiafbejaaDoor

/- The walk of l20Spoil. -/
namespace Go.Proofs.YthelpghiafbejaaDoor
open Go.RowKit
set_option linter.unusedVariables false
set_option linter.unusedSimpArgs false

theorem own_some {w : World} {base : Nat} {v : Value} {t : List C} (h : OwnC w base v t) (hl : 1 ≤ t.length) : ∃ g cap, v = .slice (some ⟨g, 0, none⟩) t.length cap ∧ base ≤ g ∧ g < w.heap.size ∧ t.length ≤ cap := by
  rcases h.2 with ⟨e, hn⟩ | ⟨g, cap, cur, e, hb, hg, hc, _⟩
  · omega
  · exact ⟨g, cap, e, hb, (Array.getElem?_eq_some_iff.1 hg).1, hc⟩

/-- What a write into a row of one's own leaves. -/
theorem drew_set {w W : World} {R p g cap : Nat} {t t' : List C} {xs : List Value} (hb : R < w.heap.size) (hg : w.grownBy W (some R)) (hR : Rd W R p) (hgb : w.heap.size ≤ g) (a : Addr) (ha : a.block = g) (u : Value) : w.grownBy (W.setCell a u) (some R) ∧ Rd (W.setCell a u) R p :=
  ⟨grown_set hg (by omega) u, hR.set (by omega) u⟩

theorem grown_undrew {w w4 : World} {row : Option Nat} (h : w.drew.grownBy w4 row) : w.grownBy w4 row := ⟨h.os, h.tape, h.output, h.size, h.block⟩
theorem cell_keep {w : World} {a : Addr} {v : Value} (h : w.cell? a = some v) (o : Obj) : (w.alloc o).cell? a = some v :=
  (World.cell?_of_block (Below.heap_alloc w o a.block (World.block_lt_of_cell? w a h))).trans h
theorem frozen_keep {w w4 : World} {R g off : Nat} (hG : w.grownBy w4 (some R)) (hg : g < w.heap.size) (hR : g ≠ R) (h : w.frozen? ⟨g, off, none⟩ = false) : w4.frozen? ⟨g, off, none⟩ = false :=
  (World.frozen?_of_block (a := ⟨g, off, none⟩) (hG.block g hg (by simpa using hR))).trans h
theorem frozen_keep2 {w w4 : World} {R g off : Nat} {o : Obj} (hG : (w.alloc o).grownBy w4 (some R)) (hg : g < w.heap.size) (hR : g ≠ R) (h : w.frozen? ⟨g, off, none⟩ = false) : w4.frozen? ⟨g, off, none⟩ = false :=
  (World.frozen?_of_block (a := ⟨g, off, none⟩) ((hG.block g (by simp; omega) (by simpa using hR)).trans (Below.heap_alloc w o g hg))).trans h

/-- The four numbers that may be added. -/
theorem lit4 (j : Nat) (hj : j < 4) : ∃ x : Int, -99999 ≤ x ∧ x ≤ 99999 ∧ (∀ W : World, (W.alloc (.cells #[.int .i64 1, .int .i64 (-1), .int .i64 99999, .int .i64 (-99999)] 3)).cell? ⟨W.heap.size, j, none⟩ = some (.int .i64 x)) ∧
    ∀ (W w2 : World) (R : Nat), R < W.heap.size → (W.alloc (.cells #[.int .i64 1, .int .i64 (-1), .int .i64 99999, .int .i64 (-99999)] 3)).grownBy w2 (some R) → w2.cell? ⟨W.heap.size, j, none⟩ = some (.int .i64 x) := by
  have hb : ∀ x ∈ ([1, -1, 99999, -99999] : List Int), -99999 ≤ x ∧ x ≤ 99999 := by decide
  have hx := hb _ (List.getElem_mem (l := [1, -1, 99999, -99999]) (n := j) (by simp; omega))
  exact ⟨([1, -1, 99999, -99999] : List Int)[j]'(by simp; omega), hx.1, hx.2, fun W => lit_ints W [1, -1, 99999, -99999] 3 j (by simp; omega), fun W w2 R hR hg => pick_lit (xs := [1, -1, 99999, -99999]) hR hg (by simp; omega)⟩

theorem drew_alloc {P : C → Prop} {w w' : World} {R p lo hi d : Nat} {e : Ending} (h : Drew P w R p lo hi d e w') (o : Obj) : Drew P w R p lo hi d e (w'.alloc o) := by
  obtain ⟨v, t, p', he, h1, h2, h3, h4, h5, h6, h7⟩ := h
  exact ⟨v, t, p', he, World.ownsRow.alloc h1 _, h2, h3, h4, h5.alloc _, h6, grown_trans h7 (grown_alloc _ _ _)⟩

theorem spoil_n {w W : World} {R p g cp k : Nat} {t : List C} {c : C} {x : Int} (hlt : R < w.heap.size) (hgb : w.heap.size ≤ g) (hk : k < t.length) (hc : c = t[k]) (hD : ∀ d ∈ t, Dc d) (hDs : Ds c) (hx0 : -99999 ≤ x) (hx1 : x ≤ 99999) (h40 : t.length ≤ 40)
    (hO : OwnC W w.heap.size (.slice (some ⟨g, 0, none⟩) t.length cp) t) (hR : Rd W R (p + 1 + 1 + 1)) (hg : w.grownBy W (some R)) :
    Drew Dc w R p 0 41 3 (.returned (.slice (some ⟨g, 0, none⟩) t.length cp)) (W.setCell ⟨g, k * 3 + 1, none⟩ (.int .i64 (IntKind.i64.wrap (c.n + x)))) := by
  have hds := hDs
  have hwr : IntKind.i64.wrap (c.n + x) = c.n + x := by
    obtain ⟨h1, h2, h3, h4, h5⟩ := hDs
    simp [IntKind.wrap, IntKind.bits, IntKind.signed]
    omega
  rw [hwr]
  have hst := (hO.stored (k * 3 + 1) (.int .i64 (c.n + x))).1
  rw [flat_set_n t k hk] at hst
  have hO5 : OwnC (W.setCell ⟨g, k * 3 + 1, none⟩ (.int .i64 (c.n + x))) w.heap.size (.slice (some ⟨g, 0, none⟩) t.length cp) (t.set k ⟨t[k].k, c.n + x, t[k].s⟩) := by unfold OwnC; rw [List.length_set]; exact hst
  obtain ⟨h1, h2, h3, h4, h5⟩ := hDs
  have hdc5 : Dc ⟨t[k].k, c.n + x, t[k].s⟩ := by rw [← hc]; exact dc_mk h1 h2 (by omega) (by omega) h5
  exact drew_mk hO5 (Nat.zero_le _) (by simp; omega) (all_set hD hdc5) (hR.set (by show R < g; omega) _) (by omega) (grown_set hg hgb _)

end Go.Proofs.YthelpghiafbejaaDoor
