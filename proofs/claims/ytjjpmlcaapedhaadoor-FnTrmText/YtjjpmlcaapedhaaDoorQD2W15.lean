import Derived.Test.YtjjpmlcaapedhaaDoorQD1
import Derived.Test.YtjjpmlcaapedhaaDoorQW10W13
/- What is drawn: a place (l20Leaf). -/
namespace Go.Proofs.YtjjpmlcaapedhaaDoor
open Go.RowKit
set_option linter.unusedVariables false
set_option linter.unusedSimpArgs false

theorem pick_lit {W w2 : World} {R : Nat} {xs : List Int} {t : TypeId} {j : Nat} (hR : R < W.heap.size) (hg : (W.alloc (.cells (xs.map (Value.int .i64)).toArray t)).grownBy w2 (some R)) (h : j < xs.length) : w2.cell? ⟨W.heap.size, j, none⟩ = some (.int .i64 xs[j]) :=
  hg.cell (lit_ints W xs t j h) (by simp; omega)
theorem pick_lits {W w2 : World} {R : Nat} {xs : List ByteArray} {t : TypeId} {j : Nat} (hR : R < W.heap.size) (hg : (W.alloc (.cells (xs.map Value.string).toArray t)).grownBy w2 (some R)) (h : j < xs.length) : w2.cell? ⟨W.heap.size, j, none⟩ = some (.string xs[j]) :=
  hg.cell (lit_strs W xs t j h) (by simp; omega)

theorem ds_mk {k n : Int} {s : ByteArray} (h0 : 0 ≤ k) (h1 : k ≤ 4) (h2 : -10000 ≤ n) (h3 : n ≤ 10000) (h4 : s.size ≤ 11) : Ds ⟨k, n, s⟩ := ⟨h0, h1, h2, h3, h4⟩
theorem dc_mk {k n : Int} {s : ByteArray} (h0 : 0 ≤ k) (h1 : k ≤ 4) (h2 : -1000000 ≤ n) (h3 : n ≤ 1000000) (h4 : s.size ≤ 11) : Dc ⟨k, n, s⟩ := ⟨h0, h1, h2, h3, h4⟩

theorem grown_set {w w' : World} {row : Option Nat} (h : w.grownBy w' row) {p : Addr} (hp : w.heap.size ≤ p.block) (v : Value) : w.grownBy (w'.setCell p v) row :=
  ⟨h.os, h.tape, h.output, by simpa [World.setCell] using h.size, fun k hk hn => (Below.heap_setCell w' p v k (by omega)).trans (h.block k hk hn)⟩
theorem grown_first {w w' : World} {o : Obj} {row : Option Nat} (h : (w.alloc o).grownBy w' row) : w.grownBy w' row := grown_trans (grown_alloc w o row) h
theorem Rd.set {w : World} {R p : Nat} (h : Rd w R p) {a : Addr} (ha : R < a.block) (v : Value) : Rd (w.setCell a v) R p :=
  h.keep (fun k hk => Below.heap_setCell w a v k (by omega))

/-- The three cells of a struct result, behind what was done since. -/
theorem res_cells {W w1 : World} {R : Nat} (hR : R < W.heap.size) (hG : (W.alloc (.cells #[.int .i64 0, .int .i64 0, .string ByteArray.empty] 49)).grownBy w1 (some R)) :
    w1.heap[W.heap.size]? = some (.cells #[.int .i64 0, .int .i64 0, .string ByteArray.empty] 49 (0, 0)) := by
  rw [hG.block W.heap.size (by simp) (by simp; omega)]
  exact heap_alloc_new W _

theorem agg_cells {w : World} {B : Nat} {a b c : Value} (h : w.heap[B]? = some (.cells #[a, b, c] 49 (0, 0))) :
    w.cell? ⟨B, 0, none⟩ = some a ∧ w.cell? ⟨B, 1, none⟩ = some b ∧ w.cell? ⟨B, 2, none⟩ = some c ∧ w.frozen? ⟨B, 0, none⟩ = false ∧ w.frozen? ⟨B, 1, none⟩ = false ∧ w.frozen? ⟨B, 2, none⟩ = false := by
  simp [World.cell?, World.frozen?, h]

set_option maxHeartbeats 2000000 in
theorem leaf_any (R p : Nat) (n : Int) (w : World) (hn : 1 ≤ n) (hn2 : n ≤ 1000) (hp : p ≤ 999999000) (h : Rd w R p) :
    Calls Tryd.prog 51 #[.pointer (some ⟨R, 0, none⟩), .int .i64 n] w fun e w' => ∃ c : C, e = .returned (.agg #[.int .i64 c.k, .int .i64 c.n, .string c.s]) ∧ Ds c ∧ (c.k = 3 → c.n = 0) ∧ Rd w' R (p + 2) ∧ w.grownBy w' (some R) := by
  have hlt := h.lt
  go_enter Tryd.func51, Tryd.ntmps51
  go_wp2_with fail
  refine (pick_any R p 4 _ (by omega) (by omega) (by omega) (h.alloc _)).mono ?_
  rintro e w1 ⟨r, rfl, h0, h1, hR1, hG1⟩
  have hB1 := res_cells hlt hG1
  have hg1 := grown_first hG1
  have hs1 : w.heap.size < w1.heap.size := by have := hG1.size; simp at this; omega
  clear hG1
  have HB1 := hide hB1
  clear hB1
  obtain hr | rfl | rfl : (r = 0 ∨ r = 1) ∨ r = 2 ∨ r = 3 := by omega
  · rcases hr with rfl | rfl
    all_goals
      go_wp2_with fail
      refine (pick_any R (p + 1) n _ hn (by omega) (by omega) hR1).mono ?_
      rintro e w2 ⟨r2, rfl, h20, h21, hR2, hG2⟩
      obtain ⟨q0, q1, q2, f0, f1, f2⟩ := agg_cells ((hG2.block w.heap.size hs1 (by simp; omega)).trans (unhide HB1))
      go_wp2
      exact bodyPost_ret (v := .agg #[.int .i64 1, .int .i64 r2, .string (ByteArray.mk #[])]) (by simp [results, Tryd.results51, go_sem, q0, q1, q2]) rfl ⟨⟨1, r2, ByteArray.mk #[]⟩, rfl, ds_mk (by omega) (by omega) (by omega) (by omega) (by decide), by simp, ((hR2.set (by exact hlt) _).set (by exact hlt) _).set (by exact hlt) _, grown_set (grown_set (grown_set (grown_trans hg1 hG2) (Nat.le_refl _) _) (Nat.le_refl _) _) (Nat.le_refl _) _⟩
  · go_wp2_with fail
    refine (pick_any R (p + 1) 6 _ (by omega) (by omega) (by omega) (hR1.alloc _)).mono ?_
    rintro e w2 ⟨r2, rfl, h20, h21, hR2, hG2⟩
    obtain ⟨j, rfl⟩ := Int.eq_ofNat_of_zero_le h20
    have hq := pick_lit (xs := [0, 1, 2, -1, 7, 9999]) hR1.lt hG2 (j := j) (by simp; omega)
    have hx : ∀ x ∈ ([0, 1, 2, -1, 7, 9999] : List Int), -10000 ≤ x ∧ x ≤ 10000 := by decide
    have hx' := hx _ (List.getElem_mem (l := [0, 1, 2, -1, 7, 9999]) (n := j) (by simp; omega))
    obtain ⟨x, hxe⟩ : ∃ x : Int, x = ([0, 1, 2, -1, 7, 9999] : List Int)[j]'(by simp; omega) := ⟨_, rfl⟩
    rw [← hxe] at hq hx'
    clear hxe hx
    obtain ⟨q0, q1, q2, f0, f1, f2⟩ := agg_cells ((hG2.block w.heap.size (by simp; omega) (by simp; omega)).trans ((Below.heap_alloc w1 _ _ hs1).trans (unhide HB1)))
    go_wp2
    exact bodyPost_ret (v := .agg #[.int .i64 2, .int .i64 x, .string (ByteArray.mk #[])]) (by simp [results, Tryd.results51, go_sem, q0, q1, q2]) rfl ⟨⟨2, x, ByteArray.mk #[]⟩, rfl, ds_mk (by omega) (by omega) (by omega) (by omega) (by decide), by simp, ((hR2.set (by exact hlt) _).set (by exact hlt) _).set (by exact hlt) _, grown_set (grown_set (grown_set (grown_trans hg1 (grown_first hG2)) (Nat.le_refl _) _) (Nat.le_refl _) _) (Nat.le_refl _) _⟩
  · go_wp2_with fail
    refine (pick_any R (p + 1) 4 _ (by omega) (by omega) (by omega) (hR1.alloc _)).mono ?_
    rintro e w2 ⟨r2, rfl, h20, h21, hR2, hG2⟩
    obtain ⟨j, rfl⟩ := Int.eq_ofNat_of_zero_le h20
    have hq := pick_lits (xs := [ByteArray.mk #[97], ByteArray.mk #[98], ByteArray.mk #[99], ByteArray.mk #[110, 105, 108]]) hR1.lt hG2 (j := j) (by simp; omega)
    have hx : ∀ x ∈ ([ByteArray.mk #[97], ByteArray.mk #[98], ByteArray.mk #[99], ByteArray.mk #[110, 105, 108]] : List ByteArray), x.size ≤ 11 := by decide
    have hx' := hx _ (List.getElem_mem (l := [ByteArray.mk #[97], ByteArray.mk #[98], ByteArray.mk #[99], ByteArray.mk #[110, 105, 108]]) (n := j) (by simp; omega))
    obtain ⟨x, hxe⟩ : ∃ x : ByteArray, x = ([ByteArray.mk #[97], ByteArray.mk #[98], ByteArray.mk #[99], ByteArray.mk #[110, 105, 108]] : List ByteArray)[j]'(by simp; omega) := ⟨_, rfl⟩
    rw [← hxe] at hq hx'
    clear hxe hx
    obtain ⟨q0, q1, q2, f0, f1, f2⟩ := agg_cells ((hG2.block w.heap.size (by simp; omega) (by simp; omega)).trans ((Below.heap_alloc w1 _ _ hs1).trans (unhide HB1)))
    go_wp2
    exact bodyPost_ret (v := .agg #[.int .i64 3, .int .i64 0, .string x]) (by simp [results, Tryd.results51, go_sem, q0, q1, q2]) rfl ⟨⟨3, 0, x⟩, rfl, ds_mk (by omega) (by omega) (by omega) (by omega) hx', by simp, ((hR2.set (by exact hlt) _).set (by exact hlt) _).set (by exact hlt) _, grown_set (grown_set (grown_set (grown_trans hg1 (grown_first hG2)) (Nat.le_refl _) _) (Nat.le_refl _) _) (Nat.le_refl _) _⟩
end Go.Proofs.YtjjpmlcaapedhaaDoor

/- TrmCanon: the plain list; the walks of the model's l1Place and TrmCanon, and of the program's TrmCanon. -/
namespace Go.Proofs.YtjjpmlcaapedhaaDoor
open Go.RowKit Go.Maps
set_option linter.unusedVariables false
set_option linter.unusedSimpArgs false

/-- Where a number stands first among some; -1, if it does not. -/
def placeV : List Int → Int → Int
  | [], _ => -1
  | a :: r, x => if a = x then 0 else if placeV r x = -1 then -1 else placeV r x + 1

theorem placeV_ge (z : List Int) (x : Int) : -1 ≤ placeV z x := by
  induction z with
  | nil => simp [placeV]
  | cons a r ih => simp only [placeV]; split; omega; split <;> omega

theorem placeV_at : ∀ (z : List Int) (k : Nat) (h : k < z.length), (∀ j, (hj : j < z.length) → j < k → z[j] ≠ z[k]) → placeV z z[k] = k
  | a :: r, 0, h, _ => by simp [placeV]
  | a :: r, k + 1, h, hn => by
      have ih := placeV_at r k (by simpa using h) (fun j hj hjk => hn (j + 1) (by simp; omega) (by omega))
      have h0 : a ≠ r[k]'(by simpa using h) := hn 0 (by simp) (by omega)
      simp only [placeV, List.getElem_cons_succ, if_neg h0, ih]
      rw [if_neg (by omega)]; omega
theorem placeV_no : ∀ (z : List Int) (x : Int), x ∉ z → placeV z x = -1
  | [], x, _ => rfl
  | a :: r, x, h => by
      have ih := placeV_no r x (fun hm => h (List.mem_cons_of_mem _ hm))
      have h0 : a ≠ x := fun e => h (by simp [e])
      simp [placeV, h0, ih]

theorem placeV_first (z : List Int) (x : Int) (k : Nat) (h : k < z.length) (hx : z[k] = x) (hn : x ∉ z.take k) : placeV z x = k := by
  subst hx
  refine placeV_at z k h (fun j hj hjk e => hn ?_)
  rw [← e, List.mem_take_iff_getElem]
  exact ⟨j, by omega, rfl⟩

def canonC (z : List Int) (c : C) : C := if c.k = 1 then ⟨c.k, placeV z c.n, c.s⟩ else c
/-- Places with their variables numbered as they come first. -/
def canonOf (t : List C) : List C := t.map (canonC (freeOf t))

theorem canonC_var {z : List Int} {c : C} (h : c.k = 1) : canonC z c = ⟨c.k, placeV z c.n, c.s⟩ := by simp [canonC, h]
theorem canonC_other {z : List Int} {c : C} (h : c.k ≠ 1) : canonC z c = c := by simp [canonC, h]
theorem canonOf_length (t : List C) : (canonOf t).length = t.length := by simp [canonOf]

theorem map_step {t : List C} {k : Nat} (z : List Int) (h : k < t.length) : (t.take (k + 1)).map (canonC z) = (t.take k).map (canonC z) ++ [canonC z t[k]] := by
  rw [List.take_succ_eq_append_getElem h, List.map_append]; rfl

theorem mem_addV {acc : List Int} {c : C} {x : Int} : x ∈ addV acc c ↔ x ∈ acc ∨ (c.k = 1 ∧ x = c.n) := by
  unfold addV
  by_cases h : c.k = 1
  · rw [if_pos h]
    by_cases hn : c.n ∈ acc
    · rw [if_pos hn]
      constructor
      · exact .inl
      · rintro (h' | ⟨_, rfl⟩)
        · exact h'
        · exact hn
    · rw [if_neg hn]; simp [h]
  · rw [if_neg h]; simp [h]
theorem mem_fold : ∀ (t : List C) (acc : List Int) (x : Int), x ∈ t.foldl addV acc ↔ x ∈ acc ∨ ∃ c ∈ t, c.k = 1 ∧ x = c.n
  | [], acc, x => by simp
  | c :: t, acc, x => by
      rw [List.foldl_cons, mem_fold t, mem_addV]
      simp only [List.mem_cons, exists_eq_or_imp]
      exact or_assoc
theorem mem_freeOf (t : List C) (x : Int) : x ∈ freeOf t ↔ ∃ c ∈ t, c.k = 1 ∧ x = c.n := by
  unfold freeOf; rw [mem_fold]; simp

/-- A place that was just laid in a block of its own. -/
theorem cell_three_new (w : World) (x y z : Value) (t : TypeId) : ∀ j u, [x, y, z][j]? = some u → (w.alloc (.cells #[x, y, z] t)).cell? ((⟨w.heap.size, 0, none⟩ : Addr).add j) = some u := by
  intro j u hj
  match j, hj with
  | 0, hj => simp at hj; subst hj; simp [Addr.add]
  | 1, hj => simp at hj; subst hj; simp [Addr.add]
  | 2, hj => simp at hj; subst hj; simp [Addr.add]

/-- What an append of one place leaves. -/
theorem app_cell {w wr w1 : World} {base : Nat} {v v' : Value} {t : List C} {c : C} (hB : Below w.heap.size w wr) (hb : w.heap.size ≤ base) (hown : OwnC wr base v t)
    (hown' : w1.ownsRow base 49 3 v' (t.length + 1) (flat t ++ [.int .i64 c.k, .int .i64 c.n, .string c.s])) (hgrow : (wr.alloc (.cells #[.int .i64 c.k, .int .i64 c.n, .string c.s] 49)).grownBy w1 v.ownBlock) :
    OwnC w1 base v' (t ++ [c]) ∧ Below w.heap.size w w1 := by
  constructor
  · unfold OwnC
    rw [show (t ++ [c]).length = t.length + 1 by simp, flat_append]
    exact hown'
  · exact (hB.alloc hB.size _).grown hgrow (by have := hB.size; simp; omega) (fun k e => Nat.le_trans hb (hown.lt k e).1)

theorem OwnC.base {w : World} {base base' : Nat} {v : Value} {t : List C} (h : OwnC w base v t) (hb : base' ≤ base) : OwnC w base' v t := by
  refine ⟨h.1, ?_⟩
  rcases h.2 with h2 | ⟨g, cap, cur, e, hg, r⟩
  · exact .inl h2
  · exact .inr ⟨g, cap, cur, e, Nat.le_trans hb hg, r⟩

theorem canon_done {w : World} {base base' : Nat} {v : Value} {t : List C} {z : List Int} (h : OwnC w base v (t.map (canonC z))) (hz : z = freeOf t) (hb : base' ≤ base) : OwnC w base' v (canonOf t) := by
  subst hz
  exact h.base hb

end Go.Proofs.YtjjpmlcaapedhaaDoor
