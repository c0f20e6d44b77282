/- What is drawn: places and a number (DrawTrmShift). -/
import Derived.Test.YtddhjafpacgdaaaD6
namespace Go.Proofs.Ytddhjafpacgdaaa
open Go.RowKit
set_option linter.unusedVariables false
set_option linter.unusedSimpArgs false

/-- Places and a number that a law draws from bytes. -/
def DrewN (w : World) (e : Ending) (w' : World) : Prop :=
  ∃ v t n, e = .returned (.tuple #[v, .int .i64 n]) ∧ OwnC w' w.heap.size v t ∧ t.length ≤ 41 ∧ (∀ c ∈ t, Dc c) ∧ (Lit.int .i64 n).wf = true ∧ Below w.heap.size w w'
theorem drewN_mk {w w' : World} {v : Value} {t : List C} {n : Int} (h1 : OwnC w' w.heap.size v t) (h2 : t.length ≤ 41) (h3 : ∀ c ∈ t, Dc c) (h4 : (Lit.int .i64 n).wf = true) (h5 : Below w.heap.size w w') : DrewN w (.returned (.tuple #[v, .int .i64 n])) w' :=
  ⟨v, t, n, rfl, h1, h2, h3, h4, h5⟩
theorem drewN_alloc {w w' : World} {e : Ending} (h : DrewN w e w') (o : Obj) : DrewN w e (w'.alloc o) := by
  obtain ⟨v, t, n, he, h1, h2, h3, h4, h5⟩ := h
  exact ⟨v, t, n, he, World.ownsRow.alloc h1 _, h2, h3, h4, h5.alloc h5.size _⟩

def lit8 : Array Value := #[.int .i64 0, .int .i64 1, .int .i64 8, .int .i64 99999, .int .i64 100000, .int .i64 (-1), .int .i64 99996, .int .i64 9223372036854775807]

theorem lit8_at (j : Nat) (hj : j < 8) : ∃ x : Int, (Lit.int .i64 x).wf = true ∧ ∀ W : World, (W.alloc (.cells #[.int .i64 0, .int .i64 1, .int .i64 8, .int .i64 99999, .int .i64 100000, .int .i64 (-1), .int .i64 99996, .int .i64 9223372036854775807] 3)).cell? ⟨W.heap.size, j, none⟩ = some (.int .i64 x) := by
  have hb : ∀ x ∈ ([0, 1, 8, 99999, 100000, -1, 99996, 9223372036854775807] : List Int), (Lit.int .i64 x).wf = true := by decide
  exact ⟨([0, 1, 8, 99999, 100000, -1, 99996, 9223372036854775807] : List Int)[j]'(by simp; omega), hb _ (List.getElem_mem _), fun W => lit_ints W [0, 1, 8, 99999, 100000, -1, 99996, 9223372036854775807] 3 j (by simp; omega)⟩

/-- What both draws leave, however they are mixed with the numbers' block. -/
theorem drewN_fin {w w1 w2 w3 : World} {v : Value} {t : List C} {x : Int} (hb1 : Below w.heap.size w w1) (hO : OwnC w2 w1.heap.size v t) (ht : t.length ≤ 41) (hD : ∀ c ∈ t, Dc c) (hlt : w.heap.size < w1.heap.size)
    (hG2 : w1.grownBy w2 (some w.heap.size)) (hG3 : w2.grownBy w3 (some w.heap.size)) (hx : (Lit.int .i64 x).wf = true) : DrewN w (.returned (.tuple #[v, .int .i64 x])) w3 := by
  have hG := grown_trans hG2 hG3
  refine drewN_mk (OwnC.base (own_apart hO hG3 (fun k e => .inl (by cases e; exact hlt))) hb1.size) ht hD hx (hb1.grown hG hb1.size (fun k e => by cases e; exact Nat.le_refl _))

theorem own_rebase {w2 w1 : World} {o : Obj} {v : Value} {t : List C} (h : OwnC w2 (w1.alloc o).heap.size v t) : OwnC w2 w1.heap.size v t := h.base (by simp)

set_option maxRecDepth 100000 in
set_option maxHeartbeats 4000000 in
theorem drawTrmShift_any (ao : Option Addr) (len cap : Nat) (z : Nat → Int) (w : World) (h : Bin w ao len cap z) :
    Calls Try.prog 24 #[.slice ao len cap] w fun e w' => DrewN w e w' := by
  go_enter Try.func24, Try.ntmps24
  go_wp2_with fail
  refine (open_any ao len cap z _ h).mono ?_
  rintro e w1 ⟨rfl, hR1, hb1⟩
  have hlt := hR1.lt
  go_wp2
  go_region_with (first | (go_at_call 60; refine (termOr_any w.heap.size 0 9 _ (by omega) (by omega) (by omega) (by first | exact hR1 | exact hR1.alloc _)).mono ?_; rintro e w2 ⟨v, t, p2, rfl, hO2, hl1, hl2, hDc, hR2, hp2, hG2d⟩; have hG2 := grown_undrew hG2d; clear hG2d; have HDc := hide hDc; clear hDc) | (go_at_call 62; refine (pick_any w.heap.size p2 8 _ (by omega) (by omega) (by omega) (by first | exact hR2 | exact hR2.alloc _)).mono ?_; rintro e w3 ⟨r, rfl, hr0, hr1, hR3, hG3⟩; obtain ⟨j, rfl⟩ := Int.eq_ofNat_of_zero_le hr0; obtain ⟨x, hxw, hlit⟩ := lit8_at j (by omega); first | (have hq := hG3.cell (hG2.cell (hlit w1) (by simp; omega)) (by simp; omega); have FIN := hide (drewN_fin hb1 (own_rebase hO2) hl2 (unhide HDc) hlt (grown_first hG2) hG3 hxw)) | (have hq := hG3.cell (hlit w2) (by have := hG2.size; simp; omega); have FIN := hide (drewN_fin hb1 hO2 hl2 (unhide HDc) hlt hG2 (grown_first hG3) hxw)) | have FIN := hide (drewN_alloc (drewN_fin hb1 hO2 hl2 (unhide HDc) hlt hG2 hG3 hxw) (.cells #[.int .i64 0, .int .i64 1, .int .i64 8, .int .i64 99999, .int .i64 100000, .int .i64 (-1), .int .i64 99996, .int .i64 9223372036854775807] 3))))
  all_goals go_wp2
  all_goals go_ret2
  all_goals exact unhide FIN
end Go.Proofs.Ytddhjafpacgdaaa
