/- What is drawn: a place (l20Leaf). -/
import Derived.Test.YtjjpmlcaapedhaaDoorQD1
namespace Go.Proofs.YtjjpmlcaapedhaaDoor
open Go.RowKit
set_option linter.unusedVariables false
set_option linter.unusedSimpArgs false

theorem pick_lit {W w2 : World} {R : Nat} {xs : List Int} {t : TypeId} {j : Nat} (hR : R < W.heap.size) (hg : (W.alloc (.cells (xs.map (Value.int .i64)).toArray t)).grownBy w2 (some R)) (h : j < xs.length) : w2.cell? ⟨W.heap.size, j, none⟩ = some (.int .i64 xs[j]) :=
  hg.cell (lit_ints W xs t j h) (by simp; omega)
theorem pick_lits {W w2 : World} {R : Nat} {xs : List ByteArray} {t : TypeId} {j : Nat} (hR : R < W.heap.size) (hg : (W.alloc (.cells (xs.map Value.string).toArray t)).grownBy w2 (some R)) (h : j < xs.length) : w2.cell? ⟨W.heap.size, j, none⟩ = some (.string xs[j]) :=
  hg.cell (lit_strs W xs t j h) (by simp; omega)

theorem ds_mk {k n : Int} {s : ByteArray} (h0 : 0 ≤ k) (h1 : k ≤ 4) (h2 : -10000 ≤ n) (h3 : n ≤ 10000) (h4 : s.size ≤ 11) : Ds ⟨k, n, s⟩ := ⟨h0, h1, h2, h3, h4⟩
theorem dc_mk {k n : Int} {s : ByteArray} (h0 : 0 ≤ k) (h1 : k ≤ 4) (h2 : -1000000 ≤ n) (h3 : n ≤ 1000000) (h4 : s.size ≤ 11) : Dc ⟨k, n, s⟩ := ⟨h0, h1, h2, h3, h4⟩

theorem grown_set {w w' : World} {row : Option Nat} (h : w.grownBy w' row) {p : Addr} (hp : w.heap.size ≤ p.block) (v : Value) : w.grownBy (w'.setCell p v) row :=
  ⟨h.os, h.tape, h.output, by simpa [World.setCell] using h.size, fun k hk hn => (Below.heap_setCell w' p v k (by omega)).trans (h.block k hk hn)⟩
theorem grown_first {w w' : World} {o : Obj} {row : Option Nat} (h : (w.alloc o).grownBy w' row) : w.grownBy w' row := grown_trans (grown_alloc w o row) h
theorem Rd.set {w : World} {R p : Nat} (h : Rd w R p) {a : Addr} (ha : R < a.block) (v : Value) : Rd (w.setCell a v) R p :=
  h.keep (fun k hk => Below.heap_setCell w a v k (by omega))

/-- The three cells of a struct result, behind what was done since. -/
theorem res_cells {W w1 : World} {R : Nat} (hR : R < W.heap.size) (hG : (W.alloc (.cells #[.int .i64 0, .int .i64 0, .string ByteArray.empty] 49)).grownBy w1 (some R)) :
    w1.heap[W.heap.size]? = some (.cells #[.int .i64 0, .int .i64 0, .string ByteArray.empty] 49 (0, 0)) := by
  rw [hG.block W.heap.size (by simp) (by simp; omega)]
  exact heap_alloc_new W _

theorem agg_cells {w : World} {B : Nat} {a b c : Value} (h : w.heap[B]? = some (.cells #[a, b, c] 49 (0, 0))) :
    w.cell? ⟨B, 0, none⟩ = some a ∧ w.cell? ⟨B, 1, none⟩ = some b ∧ w.cell? ⟨B, 2, none⟩ = some c ∧ w.frozen? ⟨B, 0, none⟩ = false ∧ w.frozen? ⟨B, 1, none⟩ = false ∧ w.frozen? ⟨B, 2, none⟩ = false := by
  simp [World.cell?, World.frozen?, h]

set_option maxHeartbeats 2000000 in
theorem leaf_any (R p : Nat) (n : Int) (w : World) (hn : 1 ≤ n) (hn2 : n ≤ 1000) (hp : p ≤ 999999000) (h : Rd w R p) :
    Calls Tryd.prog 51 #[.pointer (some ⟨R, 0, none⟩), .int .i64 n] w fun e w' => ∃ c : C, e = .returned (.agg #[.int .i64 c.k, .int .i64 c.n, .string c.s]) ∧ Ds c ∧ (c.k = 3 → c.n = 0) ∧ Rd w' R (p + 2) ∧ w.grownBy w' (some R) := by
  have hlt := h.lt
  go_enter Tryd.func51, Tryd.ntmps51
  go_wp2_with fail
  refine (pick_any R p 4 _ (by omega) (by omega) (by omega) (h.alloc _)).mono ?_
  rintro e w1 ⟨r, rfl, h0, h1, hR1, hG1⟩
  have hB1 := res_cells hlt hG1
  have hg1 := grown_first hG1
  have hs1 : w.heap.size < w1.heap.size := by have := hG1.size; simp at this; omega
  clear hG1
  have HB1 := hide hB1
  clear hB1
  obtain hr | rfl | rfl : (r = 0 ∨ r = 1) ∨ r = 2 ∨ r = 3 := by omega
  · rcases hr with rfl | rfl
    all_goals
      go_wp2_with fail
      refine (pick_any R (p + 1) n _ hn (by omega) (by omega) hR1).mono ?_
      rintro e w2 ⟨r2, rfl, h20, h21, hR2, hG2⟩
      obtain ⟨q0, q1, q2, f0, f1, f2⟩ := agg_cells ((hG2.block w.heap.size hs1 (by simp; omega)).trans (unhide HB1))
      go_wp2
      exact bodyPost_ret (v := .agg #[.int .i64 1, .int .i64 r2, .string (ByteArray.mk #[])]) (by simp [results, Tryd.results51, go_sem, q0, q1, q2]) rfl ⟨⟨1, r2, ByteArray.mk #[]⟩, rfl, ds_mk (by omega) (by omega) (by omega) (by omega) (by decide), by simp, ((hR2.set (by exact hlt) _).set (by exact hlt) _).set (by exact hlt) _, grown_set (grown_set (grown_set (grown_trans hg1 hG2) (Nat.le_refl _) _) (Nat.le_refl _) _) (Nat.le_refl _) _⟩
  · go_wp2_with fail
    refine (pick_any R (p + 1) 6 _ (by omega) (by omega) (by omega) (hR1.alloc _)).mono ?_
    rintro e w2 ⟨r2, rfl, h20, h21, hR2, hG2⟩
    obtain ⟨j, rfl⟩ := Int.eq_ofNat_of_zero_le h20
    have hq := pick_lit (xs := [0, 1, 2, -1, 7, 9999]) hR1.lt hG2 (j := j) (by simp; omega)
    have hx : ∀ x ∈ ([0, 1, 2, -1, 7, 9999] : List Int), -10000 ≤ x ∧ x ≤ 10000 := by decide
    have hx' := hx _ (List.getElem_mem (l := [0, 1, 2, -1, 7, 9999]) (n := j) (by simp; omega))
    obtain ⟨x, hxe⟩ : ∃ x : Int, x = ([0, 1, 2, -1, 7, 9999] : List Int)[j]'(by simp; omega) := ⟨_, rfl⟩
    rw [← hxe] at hq hx'
    clear hxe hx
    obtain ⟨q0, q1, q2, f0, f1, f2⟩ := agg_cells ((hG2.block w.heap.size (by simp; omega) (by simp; omega)).trans ((Below.heap_alloc w1 _ _ hs1).trans (unhide HB1)))
    go_wp2
    exact bodyPost_ret (v := .agg #[.int .i64 2, .int .i64 x, .string (ByteArray.mk #[])]) (by simp [results, Tryd.results51, go_sem, q0, q1, q2]) rfl ⟨⟨2, x, ByteArray.mk #[]⟩, rfl, ds_mk (by omega) (by omega) (by omega) (by omega) (by decide), by simp, ((hR2.set (by exact hlt) _).set (by exact hlt) _).set (by exact hlt) _, grown_set (grown_set (grown_set (grown_trans hg1 (grown_first hG2)) (Nat.le_refl _) _) (Nat.le_refl _) _) (Nat.le_refl _) _⟩
  · go_wp2_with fail
    refine (pick_any R (p + 1) 4 _ (by omega) (by omega) (by omega) (hR1.alloc _)).mono ?_
    rintro e w2 ⟨r2, rfl, h20, h21, hR2, hG2⟩
    obtain ⟨j, rfl⟩ := Int.eq_ofNat_of_zero_le h20
    have hq := pick_lits (xs := [ByteArray.mk #[97], ByteArray.mk #[98], ByteArray.mk #[99], ByteArray.mk #[110, 105, 108]]) hR1.lt hG2 (j := j) (by simp; omega)
    have hx : ∀ x ∈ ([ByteArray.mk #[97], ByteArray.mk #[98], ByteArray.mk #[99], ByteArray.mk #[110, 105, 108]] : List ByteArray), x.size ≤ 11 := by decide
    have hx' := hx _ (List.getElem_mem (l := [ByteArray.mk #[97], ByteArray.mk #[98], ByteArray.mk #[99], ByteArray.mk #[110, 105, 108]]) (n := j) (by simp; omega))
    obtain ⟨x, hxe⟩ : ∃ x : ByteArray, x = ([ByteArray.mk #[97], ByteArray.mk #[98], ByteArray.mk #[99], ByteArray.mk #[110, 105, 108]] : List ByteArray)[j]'(by simp; omega) := ⟨_, rfl⟩
    rw [← hxe] at hq hx'
    clear hxe hx
    obtain ⟨q0, q1, q2, f0, f1, f2⟩ := agg_cells ((hG2.block w.heap.size (by simp; omega) (by simp; omega)).trans ((Below.heap_alloc w1 _ _ hs1).trans (unhide HB1)))
    go_wp2
    exact bodyPost_ret (v := .agg #[.int .i64 3, .int .i64 0, .string x]) (by simp [results, Tryd.results51, go_sem, q0, q1, q2]) rfl ⟨⟨3, 0, x⟩, rfl, ds_mk (by omega) (by omega) (by omega) (by omega) hx', by simp, ((hR2.set (by exact hlt) _).set (by exact hlt) _).set (by exact hlt) _, grown_set (grown_set (grown_set (grown_trans hg1 (grown_first hG2)) (Nat.le_refl _) _) (Nat.le_refl _) _) (Nat.le_refl _) _⟩
end Go.Proofs.YtjjpmlcaapedhaaDoor
