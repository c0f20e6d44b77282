import Derived.Test.YthelpghiafbejaaDoorQD1
import Derived.Test.YthelpghiafbejaaDoorQW15
/- What is drawn: a place (l20Leaf). -/
namespace Go.Proofs.YthelpghiafbejaaDoor
open Go.RowKit
set_option linter.unusedVariables false
set_option linter.unusedSimpArgs false

theorem pick_lit {W w2 : World} {R : Nat} {xs : List Int} {t : TypeId} {j : Nat} (hR : R < W.heap.size) (hg : (W.alloc (.cells (xs.map (Value.int .i64)).toArray t)).grownBy w2 (some R)) (h : j < xs.length) : w2.cell? ⟨W.heap.size, j, none⟩ = some (.int .i64 xs[j]) :=
  hg.cell (lit_ints W xs t j h) (by simp; omega)
theorem pick_lits {W w2 : World} {R : Nat} {xs : List ByteArray} {t : TypeId} {j : Nat} (hR : R < W.heap.size) (hg : (W.alloc (.cells (xs.map Value.string).toArray t)).grownBy w2 (some R)) (h : j < xs.length) : w2.cell? ⟨W.heap.size, j, none⟩ = some (.string xs[j]) :=
  hg.cell (lit_strs W xs t j h) (by simp; omega)

theorem ds_mk {k n : Int} {s : ByteArray} (h0 : 0 ≤ k) (h1 : k ≤ 4) (h2 : -10000 ≤ n) (h3 : n ≤ 10000) (h4 : s.size ≤ 11) : Ds ⟨k, n, s⟩ := ⟨h0, h1, h2, h3, h4⟩
theorem dc_mk {k n : Int} {s : ByteArray} (h0 : 0 ≤ k) (h1 : k ≤ 4) (h2 : -1000000 ≤ n) (h3 : n ≤ 1000000) (h4 : s.size ≤ 11) : Dc ⟨k, n, s⟩ := ⟨h0, h1, h2, h3, h4⟩

theorem grown_set {w w' : World} {row : Option Nat} (h : w.grownBy w' row) {p : Addr} (hp : w.heap.size ≤ p.block) (v : Value) : w.grownBy (w'.setCell p v) row :=
  ⟨h.os, h.tape, h.output, by simpa [World.setCell] using h.size, fun k hk hn => (Below.heap_setCell w' p v k (by omega)).trans (h.block k hk hn)⟩
theorem grown_first {w w' : World} {o : Obj} {row : Option Nat} (h : (w.alloc o).grownBy w' row) : w.grownBy w' row := grown_trans (grown_alloc w o row) h
theorem Rd.set {w : World} {R p : Nat} (h : Rd w R p) {a : Addr} (ha : R < a.block) (v : Value) : Rd (w.setCell a v) R p :=
  h.keep (fun k hk => Below.heap_setCell w a v k (by omega))

/-- The three cells of a struct result, behind what was done since. -/
theorem res_cells {W w1 : World} {R : Nat} (hR : R < W.heap.size) (hG : (W.alloc (.cells #[.int .i64 0, .int .i64 0, .string ByteArray.empty] 45)).grownBy w1 (some R)) :
    w1.heap[W.heap.size]? = some (.cells #[.int .i64 0, .int .i64 0, .string ByteArray.empty] 45 (0, 0)) := by
  rw [hG.block W.heap.size (by simp) (by simp; omega)]
  exact heap_alloc_new W _

theorem agg_cells {w : World} {B : Nat} {a b c : Value} (h : w.heap[B]? = some (.cells #[a, b, c] 45 (0, 0))) :
    w.cell? ⟨B, 0, none⟩ = some a ∧ w.cell? ⟨B, 1, none⟩ = some b ∧ w.cell? ⟨B, 2, none⟩ = some c ∧ w.frozen? ⟨B, 0, none⟩ = false ∧ w.frozen? ⟨B, 1, none⟩ = false ∧ w.frozen? ⟨B, 2, none⟩ = false := by
  simp [World.cell?, World.frozen?, h]

end Go.Proofs.YthelpghiafbejaaDoor

/- What is drawn: places of a term (l20Term). -/
namespace Go.Proofs.YthelpghiafbejaaDoor
open Go.RowKit
set_option linter.unusedVariables false
set_option linter.unusedSimpArgs false

/-- How long a slice value is: for a loop's measure. -/
def lenV : Value → Nat
  | .slice _ n _ => n
  | _ => 0

theorem own_setc {w : World} {base e size n : Nat} {v : Value} {xs : List Value} (h : w.ownsRow base e size v n xs) {p : Addr} (hp : ∀ k, v.ownBlock = some k → k ≠ p.block) (u : Value) : (w.setCell p u).ownsRow base e size v n xs := by
  refine h.kept (row := some p.block) ⟨rfl, rfl, rfl, by simp [World.setCell], fun k hk hn => Below.heap_setCell w p u k (fun e => hn (by rw [e]))⟩ ?_
  cases hv : v.ownBlock with
  | none => exact .inl rfl
  | some k => exact .inr (fun e => hp k hv (by simpa using e))

theorem grown_own {w W w5 : World} {R : Nat} {o : Obj} {v : Value} (h : w.grownBy W (some R)) (hg : (W.alloc o).grownBy w5 v.ownBlock) (hv : ∀ k, v.ownBlock = some k → w.heap.size ≤ k) : w.grownBy w5 (some R) := by
  have h1 := grown_trans h (grown_alloc W o (some R))
  exact ⟨hg.os.trans h1.os, hg.tape.trans h1.tape, hg.output.trans h1.output, Nat.le_trans h1.size hg.size, fun k hk hn => (hg.block k (Nat.lt_of_lt_of_le hk h1.size) (fun e => by have := hv k e.symm; omega)).trans (h1.block k hk hn)⟩

/-- What an append leaves of places that were drawn. -/
theorem draw_app {w W w5 : World} {R p : Nat} {v v' : Value} {t : List C} {c : C} (hb : R < w.heap.size) (hg : w.grownBy W (some R)) (hR : Rd W R p) (hown : OwnC W w.heap.size v t)
    (hown' : w5.ownsRow w.heap.size 45 3 v' (t.length + 1) (flat t ++ [.int .i64 c.k, .int .i64 c.n, .string c.s])) (hgrow : (W.alloc (.cells #[.int .i64 c.k, .int .i64 c.n, .string c.s] 45)).grownBy w5 v.ownBlock) :
    OwnC w5 w.heap.size v' (t ++ [c]) ∧ Rd w5 R p ∧ w.grownBy w5 (some R) := by
  refine ⟨?_, ?_, grown_own hg hgrow (fun k e => (hown.lt k e).1)⟩
  · unfold OwnC
    rw [show (t ++ [c]).length = t.length + 1 by simp, flat_append]
    exact hown'
  · exact (hR.alloc _).grown hgrow (fun k e => Nat.lt_of_lt_of_le hb (hown.lt k e).1)

theorem lenV_own {w : World} {base : Nat} {v : Value} {t : List C} (h : OwnC w base v t) : lenV v = t.length := by
  obtain ⟨ao, cap, rfl, _⟩ := h.shape
  rfl

theorem all_snoc {P : C → Prop} {t : List C} {c : C} (h : ∀ d ∈ t, P d) (hc : P c) : ∀ d ∈ t ++ [c], P d := fun d hd => by
  rcases List.mem_append.1 hd with h' | h'
  · exact h d h'
  · simp at h'; subst h'; exact hc

theorem size3 (w : World) (a b c : Addr) (x y z : Value) : (((w.setCell a x).setCell b y).setCell c z).heap.size = w.heap.size := by simp [World.setCell]

/-- Places were drawn: from lo to hi of them, all within bounds; the reader has gone on, by at most d. -/
def Drew (P : C → Prop) (w : World) (R p lo hi d : Nat) (e : Ending) (w' : World) : Prop :=
  ∃ v t p', e = .returned v ∧ OwnC w' w.heap.size v t ∧ lo ≤ t.length ∧ t.length ≤ hi ∧ (∀ c ∈ t, P c) ∧ Rd w' R p' ∧ p' ≤ p + d ∧ w.grownBy w' (some R)
theorem drew_mk {P : C → Prop} {w w' : World} {R p lo hi d p' : Nat} {v : Value} {t : List C} (h1 : OwnC w' w.heap.size v t) (h2 : lo ≤ t.length) (h3 : t.length ≤ hi) (h4 : ∀ c ∈ t, P c) (h5 : Rd w' R p') (h6 : p' ≤ p + d) (h7 : w.grownBy w' (some R)) : Drew P w R p lo hi d (.returned v) w' :=
  ⟨v, t, p', rfl, h1, h2, h3, h4, h5, h6, h7⟩

end Go.Proofs.YthelpghiafbejaaDoor
