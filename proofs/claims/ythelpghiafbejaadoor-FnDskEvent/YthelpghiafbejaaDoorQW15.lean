/- TrmCanon: the plain list; the walks of the model's l1Place and TrmCanon, and of the program's TrmCanon. -/
import Derived.Test.YthelpghiafbejaaDoorQW10W13
namespace Go.Proofs.YthelpghiafbejaaDoor
open Go.RowKit Go.Maps
set_option linter.unusedVariables false
set_option linter.unusedSimpArgs false

/-- Where a number stands first among some; -1, if it does not. -/
def placeV : List Int → Int → Int
  | [], _ => -1
  | a :: r, x => if a = x then 0 else if placeV r x = -1 then -1 else placeV r x + 1

theorem placeV_ge (z : List Int) (x : Int) : -1 ≤ placeV z x := by
  induction z with
  | nil => simp [placeV]
  | cons a r ih => simp only [placeV]; split; omega; split <;> omega

theorem placeV_at : ∀ (z : List Int) (k : Nat) (h : k < z.length), (∀ j, (hj : j < z.length) → j < k → z[j] ≠ z[k]) → placeV z z[k] = k
  | a :: r, 0, h, _ => by simp [placeV]
  | a :: r, k + 1, h, hn => by
      have ih := placeV_at r k (by simpa using h) (fun j hj hjk => hn (j + 1) (by simp; omega) (by omega))
      have h0 : a ≠ r[k]'(by simpa using h) := hn 0 (by simp) (by omega)
      simp only [placeV, List.getElem_cons_succ, if_neg h0, ih]
      rw [if_neg (by omega)]; omega
theorem placeV_no : ∀ (z : List Int) (x : Int), x ∉ z → placeV z x = -1
  | [], x, _ => rfl
  | a :: r, x, h => by
      have ih := placeV_no r x (fun hm => h (List.mem_cons_of_mem _ hm))
      have h0 : a ≠ x := fun e => h (by simp [e])
      simp [placeV, h0, ih]

theorem placeV_first (z : List Int) (x : Int) (k : Nat) (h : k < z.length) (hx : z[k] = x) (hn : x ∉ z.take k) : placeV z x = k := by
  subst hx
  refine placeV_at z k h (fun j hj hjk e => hn ?_)
  rw [← e, List.mem_take_iff_getElem]
  exact ⟨j, by omega, rfl⟩

def canonC (z : List Int) (c : C) : C := if c.k = 1 then ⟨c.k, placeV z c.n, c.s⟩ else c
/-- Places with their variables numbered as they come first. -/
def canonOf (t : List C) : List C := t.map (canonC (freeOf t))

theorem canonC_var {z : List Int} {c : C} (h : c.k = 1) : canonC z c = ⟨c.k, placeV z c.n, c.s⟩ := by simp [canonC, h]
theorem canonC_other {z : List Int} {c : C} (h : c.k ≠ 1) : canonC z c = c := by simp [canonC, h]
theorem canonOf_length (t : List C) : (canonOf t).length = t.length := by simp [canonOf]

theorem map_step {t : List C} {k : Nat} (z : List Int) (h : k < t.length) : (t.take (k + 1)).map (canonC z) = (t.take k).map (canonC z) ++ [canonC z t[k]] := by
  rw [List.take_succ_eq_append_getElem h, List.map_append]; rfl

theorem mem_addV {acc : List Int} {c : C} {x : Int} : x ∈ addV acc c ↔ x ∈ acc ∨ (c.k = 1 ∧ x = c.n) := by
  unfold addV
  by_cases h : c.k = 1
  · rw [if_pos h]
    by_cases hn : c.n ∈ acc
    · rw [if_pos hn]
      constructor
      · exact .inl
      · rintro (h' | ⟨_, rfl⟩)
        · exact h'
        · exact hn
    · rw [if_neg hn]; simp [h]
  · rw [if_neg h]; simp [h]
theorem mem_fold : ∀ (t : List C) (acc : List Int) (x : Int), x ∈ t.foldl addV acc ↔ x ∈ acc ∨ ∃ c ∈ t, c.k = 1 ∧ x = c.n
  | [], acc, x => by simp
  | c :: t, acc, x => by
      rw [List.foldl_cons, mem_fold t, mem_addV]
      simp only [List.mem_cons, exists_eq_or_imp]
      exact or_assoc
theorem mem_freeOf (t : List C) (x : Int) : x ∈ freeOf t ↔ ∃ c ∈ t, c.k = 1 ∧ x = c.n := by
  unfold freeOf; rw [mem_fold]; simp

/-- A place that was just laid in a block of its own. -/
theorem cell_three_new (w : World) (x y z : Value) (t : TypeId) : ∀ j u, [x, y, z][j]? = some u → (w.alloc (.cells #[x, y, z] t)).cell? ((⟨w.heap.size, 0, none⟩ : Addr).add j) = some u := by
  intro j u hj
  match j, hj with
  | 0, hj => simp at hj; subst hj; simp [Addr.add]
  | 1, hj => simp at hj; subst hj; simp [Addr.add]
  | 2, hj => simp at hj; subst hj; simp [Addr.add]

/-- What an append of one place leaves. -/
theorem app_cell {w wr w1 : World} {base : Nat} {v v' : Value} {t : List C} {c : C} (hB : Below w.heap.size w wr) (hb : w.heap.size ≤ base) (hown : OwnC wr base v t)
    (hown' : w1.ownsRow base 45 3 v' (t.length + 1) (flat t ++ [.int .i64 c.k, .int .i64 c.n, .string c.s])) (hgrow : (wr.alloc (.cells #[.int .i64 c.k, .int .i64 c.n, .string c.s] 45)).grownBy w1 v.ownBlock) :
    OwnC w1 base v' (t ++ [c]) ∧ Below w.heap.size w w1 := by
  constructor
  · unfold OwnC
    rw [show (t ++ [c]).length = t.length + 1 by simp, flat_append]
    exact hown'
  · exact (hB.alloc hB.size _).grown hgrow (by have := hB.size; simp; omega) (fun k e => Nat.le_trans hb (hown.lt k e).1)

theorem OwnC.base {w : World} {base base' : Nat} {v : Value} {t : List C} (h : OwnC w base v t) (hb : base' ≤ base) : OwnC w base' v t := by
  refine ⟨h.1, ?_⟩
  rcases h.2 with h2 | ⟨g, cap, cur, e, hg, r⟩
  · exact .inl h2
  · exact .inr ⟨g, cap, cur, e, Nat.le_trans hb hg, r⟩

theorem canon_done {w : World} {base base' : Nat} {v : Value} {t : List C} {z : List Int} (h : OwnC w base v (t.map (canonC z))) (hz : z = freeOf t) (hb : base' ≤ base) : OwnC w base' v (canonOf t) := by
  subst hz
  exact h.base hb

end Go.Proofs.YthelpghiafbejaaDoor
