/- What is drawn, and that it is a term: a place (l20Leaf). -/
import Derived.Test.YtcimlcmhodpalaaQD2
import Derived.Test.YtcimlcmhodpalaaQOpenOpen2Plain4
namespace Go.Proofs.Ytcimlcmhodpalaa
open Go.RowKit
set_option linter.unusedVariables false
set_option linter.unusedSimpArgs false

/-- A place that may stand in a term, within bounds. -/
def Dk (c : C) : Prop := Ds c ∧ okC c = true
theorem okC_v {n : Int} (h0 : 0 ≤ n) (h1 : n ≤ 99999) : okC ⟨1, n, ByteArray.mk #[]⟩ = true := by simp [okC, h0, h1]; rfl
theorem okC_n {n : Int} (h0 : -9999 ≤ n) (h1 : n ≤ 9999) : okC ⟨2, n, ByteArray.mk #[]⟩ = true := by simp [okC, h0, h1]; rfl
theorem okC_f {n : Int} {s : ByteArray} (h0 : 0 ≤ n) (h1 : n ≤ 3) (hs : nameB s = true) : okC ⟨3, n, s⟩ = true := by simp [okC, h0, h1, hs]

set_option maxHeartbeats 2000000 in
theorem leaf_ok (R p : Nat) (n : Int) (w : World) (hn : 1 ≤ n) (hn2 : n ≤ 1000) (hp : p ≤ 999999000) (h : Rd w R p) :
    Calls Try.prog 109 #[.pointer (some ⟨R, 0, none⟩), .int .i64 n] w fun e w' => ∃ c : C, e = .returned (.agg #[.int .i64 c.k, .int .i64 c.n, .string c.s]) ∧ Dk c ∧ (c.k = 3 → c.n = 0) ∧ Rd w' R (p + 2) ∧ w.grownBy w' (some R) := by
  have hlt := h.lt
  go_enter Try.func109, Try.ntmps109
  go_wp2_with fail
  refine (pick_any R p 4 _ (by omega) (by omega) (by omega) (h.alloc _)).mono ?_
  rintro e w1 ⟨r, rfl, h0, h1, hR1, hG1⟩
  have hB1 := res_cells hlt hG1
  have hg1 := grown_first hG1
  have hs1 : w.heap.size < w1.heap.size := by have := hG1.size; simp at this; omega
  clear hG1
  have HB1 := hide hB1
  clear hB1
  obtain hr | rfl | rfl : (r = 0 ∨ r = 1) ∨ r = 2 ∨ r = 3 := by omega
  · rcases hr with rfl | rfl
    all_goals
      go_wp2_with fail
      refine (pick_any R (p + 1) n _ hn (by omega) (by omega) hR1).mono ?_
      rintro e w2 ⟨r2, rfl, h20, h21, hR2, hG2⟩
      obtain ⟨q0, q1, q2, f0, f1, f2⟩ := agg_cells ((hG2.block w.heap.size hs1 (by simp; omega)).trans (unhide HB1))
      go_wp2
      exact bodyPost_ret (v := .agg #[.int .i64 1, .int .i64 r2, .string (ByteArray.mk #[])]) (by simp [results, Try.results109, go_sem, q0, q1, q2]) rfl ⟨⟨1, r2, ByteArray.mk #[]⟩, rfl, ⟨ds_mk (by omega) (by omega) (by omega) (by omega) (by decide), okC_v (by omega) (by omega)⟩, by simp, ((hR2.set (by exact hlt) _).set (by exact hlt) _).set (by exact hlt) _, grown_set (grown_set (grown_set (grown_trans hg1 hG2) (Nat.le_refl _) _) (Nat.le_refl _) _) (Nat.le_refl _) _⟩
  · go_wp2_with fail
    refine (pick_any R (p + 1) 6 _ (by omega) (by omega) (by omega) (hR1.alloc _)).mono ?_
    rintro e w2 ⟨r2, rfl, h20, h21, hR2, hG2⟩
    obtain ⟨j, rfl⟩ := Int.eq_ofNat_of_zero_le h20
    have hq := pick_lit (xs := [0, 1, 2, -1, 7, 9999]) hR1.lt hG2 (j := j) (by simp; omega)
    have hx : ∀ x ∈ ([0, 1, 2, -1, 7, 9999] : List Int), -9999 ≤ x ∧ x ≤ 9999 := by decide
    have hx' := hx _ (List.getElem_mem (l := [0, 1, 2, -1, 7, 9999]) (n := j) (by simp; omega))
    obtain ⟨x, hxe⟩ : ∃ x : Int, x = ([0, 1, 2, -1, 7, 9999] : List Int)[j]'(by simp; omega) := ⟨_, rfl⟩
    rw [← hxe] at hq hx'
    clear hxe hx
    obtain ⟨q0, q1, q2, f0, f1, f2⟩ := agg_cells ((hG2.block w.heap.size (by simp; omega) (by simp; omega)).trans ((Below.heap_alloc w1 _ _ hs1).trans (unhide HB1)))
    go_wp2
    exact bodyPost_ret (v := .agg #[.int .i64 2, .int .i64 x, .string (ByteArray.mk #[])]) (by simp [results, Try.results109, go_sem, q0, q1, q2]) rfl ⟨⟨2, x, ByteArray.mk #[]⟩, rfl, ⟨ds_mk (by omega) (by omega) (by omega) (by omega) (by decide), okC_n (by omega) (by omega)⟩, by simp, ((hR2.set (by exact hlt) _).set (by exact hlt) _).set (by exact hlt) _, grown_set (grown_set (grown_set (grown_trans hg1 (grown_first hG2)) (Nat.le_refl _) _) (Nat.le_refl _) _) (Nat.le_refl _) _⟩
  · go_wp2_with fail
    refine (pick_any R (p + 1) 4 _ (by omega) (by omega) (by omega) (hR1.alloc _)).mono ?_
    rintro e w2 ⟨r2, rfl, h20, h21, hR2, hG2⟩
    obtain ⟨j, rfl⟩ := Int.eq_ofNat_of_zero_le h20
    have hq := pick_lits (xs := [ByteArray.mk #[97], ByteArray.mk #[98], ByteArray.mk #[99], ByteArray.mk #[110, 105, 108]]) hR1.lt hG2 (j := j) (by simp; omega)
    have hx : ∀ x ∈ ([ByteArray.mk #[97], ByteArray.mk #[98], ByteArray.mk #[99], ByteArray.mk #[110, 105, 108]] : List ByteArray), x.size ≤ 11 ∧ nameB x = true := by decide
    have hx' := hx _ (List.getElem_mem (l := [ByteArray.mk #[97], ByteArray.mk #[98], ByteArray.mk #[99], ByteArray.mk #[110, 105, 108]]) (n := j) (by simp; omega))
    obtain ⟨x, hxe⟩ : ∃ x : ByteArray, x = ([ByteArray.mk #[97], ByteArray.mk #[98], ByteArray.mk #[99], ByteArray.mk #[110, 105, 108]] : List ByteArray)[j]'(by simp; omega) := ⟨_, rfl⟩
    rw [← hxe] at hq hx'
    clear hxe hx
    obtain ⟨q0, q1, q2, f0, f1, f2⟩ := agg_cells ((hG2.block w.heap.size (by simp; omega) (by simp; omega)).trans ((Below.heap_alloc w1 _ _ hs1).trans (unhide HB1)))
    go_wp2
    exact bodyPost_ret (v := .agg #[.int .i64 3, .int .i64 0, .string x]) (by simp [results, Try.results109, go_sem, q0, q1, q2]) rfl ⟨⟨3, 0, x⟩, rfl, ⟨ds_mk (by omega) (by omega) (by omega) (by omega) hx'.1, okC_f (by omega) (by omega) hx'.2⟩, by simp, ((hR2.set (by exact hlt) _).set (by exact hlt) _).set (by exact hlt) _, grown_set (grown_set (grown_set (grown_trans hg1 (grown_first hG2)) (Nat.le_refl _) _) (Nat.le_refl _) _) (Nat.le_refl _) _⟩
end Go.Proofs.Ytcimlcmhodpalaa
