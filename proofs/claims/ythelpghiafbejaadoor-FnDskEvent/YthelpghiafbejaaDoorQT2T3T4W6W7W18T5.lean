import Derived.Deep.AppendLies
import Derived.Test.YthelpghiafbejaaDoorQTX5T1
import Derived.Test.YthelpghiafbejaaDoorQW15
import Derived.Test.YthelpghiafbejaaDoorQPlain4
import Derived.Deep.RegionLaw
import Derived.BigRegion
import Derived.Test.YthelpghiafbejaaDoorQYB2W2
import Derived.Test.YthelpghiafbejaaDoorQPlain2YB3
import Derived.Test.YthelpghiafbejaaDoorQW3W4
import Derived.Test.YthelpghiafbejaaDoorQW5
import Derived.Laws.StructEq
import Derived.Deep.QuietTactic
import Derived.BigQuiet
import Derived.WalkSmall
import Derived.Test.YthelpghiafbejaaDoorQW10W13
/- The walk of list: the places of a tree in new memory. -/
namespace Go.Proofs.YthelpghiafbejaaDoor
open Go.RowKit Go.Shelf
set_option linter.unusedVariables false
set_option linter.unusedSimpArgs false
attribute [local go_sem] Oper.semAt_some
attribute [-go_sem] Go.Builtin.append_

/-- At a node's block lies that place. -/
def Held (n₀ : Nat) (w : World) (x : Nat × C) : Prop := x.1 < n₀ ∧ w.cell? ⟨x.1, 0, none⟩ = some (.int .i64 x.2.k) ∧ w.cell? ⟨x.1, 1, none⟩ = some (.int .i64 x.2.n) ∧ w.cell? ⟨x.1, 2, none⟩ = some (.string x.2.s)

theorem Held.below {n₀ : Nat} {w w' : World} {x : Nat × C} (h : Held n₀ w x) (hb : Below n₀ w w') : Held n₀ w' x :=
  ⟨h.1, (hb.cell (p := ⟨x.1, 0, none⟩) h.1).trans h.2.1, (hb.cell (p := ⟨x.1, 1, none⟩) h.1).trans h.2.2.1, (hb.cell (p := ⟨x.1, 2, none⟩) h.1).trans h.2.2.2⟩

theorem lift_sub {α : Type} {P : α → Prop} : ∀ (z : List α), (∀ x ∈ z, P x) → ∃ xs : List {x : α // P x}, xs.map (·.1) = z
  | [], _ => ⟨[], rfl⟩
  | x :: z, h => by
      obtain ⟨xs, e⟩ := lift_sub z (fun y hy => h y (by simp [hy]))
      exact ⟨⟨x, h x (by simp)⟩ :: xs, by simp [e]⟩

/-- What list is of places. -/
def listed (t : List C) : List C := if trm t then t else []

end Go.Proofs.YthelpghiafbejaaDoor

/- The walk of firstTree. -/
namespace Go.Proofs.YthelpghiafbejaaDoor
open Go.RowKit Go.Shelf
set_option linter.unusedVariables false
set_option linter.unusedSimpArgs false

/-- A slice that leads to places that lie below n₀. -/
def Sl (n₀ : Nat) (w : World) (v : Value) (t : List C) : Prop := ∃ ao cap, v = .slice ao t.length cap ∧ t.length ≤ cap ∧ cap ≤ maxLen ∧ (t = [] ∨ ∃ b off, ao = some ⟨b, off, none⟩ ∧ b < n₀ ∧ At w b off t)

theorem Sl.below {n₀ : Nat} {w w' : World} {v : Value} {t : List C} (h : Sl n₀ w v t) (hb : Below n₀ w w') : Sl n₀ w' v t := by
  obtain ⟨ao, cap, e, h1, h2, h3⟩ := h
  exact ⟨ao, cap, e, h1, h2, h3.imp_right fun ⟨b, off, e, hl, hA⟩ => ⟨b, off, e, hl, hA.kept (hb.block b hl)⟩⟩

/-- Blocks that a call has made, but for one and for a slice's own. -/
def Fr (lo hi P : Nat) (v : Value) (b : Nat) : Prop := lo ≤ b ∧ b < hi ∧ b ≠ P ∧ some b ≠ v.ownBlock

theorem grownBy_setc (W : World) (a : Addr) (v : Value) : W.grownBy (W.setCell a v) (some a.block) :=
  ⟨rfl, rfl, rfl, (KeepsWalks.setCell W _ v).size, fun k _ hk => Below.heap_setCell _ _ _ k (fun e => hk (by rw [e]))⟩

theorem own_lt {w : World} {base e size n : Nat} {v : Value} {xs : List Value} (h : w.ownsRow base e size v n xs) {g : Nat} (hg : v.ownBlock = some g) : g < w.heap.size := by
  rcases h.2 with ⟨rfl, _⟩ | ⟨g', cap, cur, rfl, _, hgb, _⟩
  · simp [Value.ownBlock] at hg
  · obtain rfl : g' = g := by simpa [Value.ownBlock] using hg
    exact (Array.getElem?_eq_some_iff.1 hgb).1

end Go.Proofs.YthelpghiafbejaaDoor

/- The walks of firstTree and treeOf. -/
namespace Go.Proofs.YthelpghiafbejaaDoor
open Go.RowKit Go.Shelf
set_option linter.unusedVariables false
set_option linter.unusedSimpArgs false

end Go.Proofs.YthelpghiafbejaaDoor

/- eqTrmCellS of whatever places; the walk of the law FnExactTrmOk. -/
namespace Go.Proofs.YthelpghiafbejaaDoor
open Go.RowKit
set_option linter.unusedVariables false
set_option linter.unusedSimpArgs false

theorem row_of_own {w : World} {base e g cap : Nat} {t : List C} (h : w.ownsRow base e 3 (.slice (some ⟨g, 0, none⟩) t.length cap) t.length (flat t)) : Row w (some ⟨g, 0, none⟩) t :=
  .inr ⟨g, 0, rfl, owns_at h rfl⟩

end Go.Proofs.YthelpghiafbejaaDoor

/- The walks of TrmSame, of the model and of the program (slices.Equal). -/
namespace Go.Proofs.YthelpghiafbejaaDoor
open Go.RowKit
set_option linter.unusedVariables false
set_option linter.unusedSimpArgs false

theorem Tryd.heldCell : Tryd.prog.stoodInHeld 45 = false := by kernel_rfl
theorem Tryd.fieldsCell : Tryd.prog.underlying 45 = some (.struct (Tryd.prog.fieldsOf 45)) := by kernel_rfl
theorem Tryd.guardCell : Tryd.prog.eqGuardType Tryd.prog.depth 45 = false := by kernel_rfl

theorem neq_cell (c d : C) (w : World) : (binOp .neq 45 (.agg #[.int .i64 c.k, .int .i64 c.n, .string c.s]) (.agg #[.int .i64 d.k, .int .i64 d.n, .string d.s])).run Tryd.prog w = .ok (.bool (!same c d)) w := by
  rw [run_neq_struct, run_equalIn_agg w 9999 45 _ _ Tryd.fieldsCell Tryd.heldCell]
  by_cases h1 : c.k = d.k
  · by_cases h2 : c.n = d.n
    · simp [Program.fieldsOf, Tryd.underlying45, Op.eqFields, go_sem, same, h1, h2, ByteArray.toList_eq]
      by_cases h3 : c.s.data = d.s.data
      · simp [h3]
      · simp [h3]
    · simp [Program.fieldsOf, Tryd.underlying45, Op.eqFields, go_sem, same, h1, h2]
  · simp [Program.fieldsOf, Tryd.underlying45, Op.eqFields, go_sem, same, h1]

end Go.Proofs.YthelpghiafbejaaDoor

/- The walk of caTerm; treeOf and TrmShift where places are no term. -/
namespace Go.Proofs.YthelpghiafbejaaDoor
open Go.RowKit
set_option linter.unusedVariables false
set_option linter.unusedSimpArgs false

end Go.Proofs.YthelpghiafbejaaDoor

/- Trees as shapes with what they hold; the walk of TrmArg. -/
namespace Go.Proofs.YthelpghiafbejaaDoor
open Go.RowKit Go.Shelf
set_option linter.unusedVariables false
set_option linter.unusedSimpArgs false

/-- The first m terms of places. -/
def split : Nat → List C → List (List C)
  | 0, _ => []
  | m + 1, t => match ends 1 t with
    | some j => t.take j :: split m (t.drop j)
    | none => []

theorem split_trees {f : Nat} (r : List C) : ∀ (ks : List (List C)), (∀ k ∈ ks, Tm f k) → split ks.length (ks.flatten ++ r) = ks
  | [], _ => rfl
  | k :: ks, h => by
      have e := ends_of_tree f k (h k (by simp)) 0 (ks.flatten ++ r)
      have z : ∀ r, ends (0 : Nat) r = some 0 := fun r => by cases r <;> simp [ends]
      rw [z] at e
      simp at e
      rw [List.flatten_cons, List.append_assoc, List.length_cons]
      simp only [split, e]
      rw [List.take_left, List.drop_left, split_trees r ks (fun q hq => h q (by simp [hq]))]

/-- The k-th argument of places that are a term. -/
def argOf (t : List C) (k : Int) : List C := if trm t = true ∧ 0 ≤ k then ((split (ari (t.headD ⟨0, 0, ByteArray.empty⟩)).toNat t.tail)[k.toNat]?).getD [] else []

theorem argOf_no {t : List C} {k : Int} (h : trm t = false) : argOf t k = [] := by simp [argOf, h]
theorem argOf_neg {t : List C} {k : Int} (h : k < 0) : argOf t k = [] := by
  unfold argOf; rw [if_neg (fun h' => by omega)]
theorem argOf_at {f : Nat} {c : C} {ks : List (List C)} (ht : trm (c :: ks.flatten) = true) (hl : (ks.length : Int) = ari c) (hk : ∀ k ∈ ks, Tm f k) {i : Int} (hi : 0 ≤ i) : argOf (c :: ks.flatten) i = (ks[i.toNat]?).getD [] := by
  unfold argOf
  rw [if_pos ⟨ht, hi⟩]
  have := split_trees [] ks hk
  rw [List.append_nil] at this
  simp only [List.headD_cons, List.tail_cons]
  rw [← hl, Int.toNat_natCast, this]

theorem arg_trm {f : Nat} {c : C} {ks : List (List C)} (ht : trm (c :: ks.flatten) = true) (hk : ∀ k ∈ ks, Tm f k) {k : List C} (h : k ∈ ks) : trm k = true := by
  have h0 := (trm_iff _).1 ht
  have hsub : ∀ q ∈ k, q ∈ c :: ks.flatten := fun q hq => List.mem_cons_of_mem _ (List.mem_flatten.2 ⟨k, h, hq⟩)
  have hlen : k.length ≤ ks.flatten.length := by
    have := (List.sublist_flatten_of_mem h).length_le
    exact this
  refine tree_trm (hk k h) ?_ (fun q hq => h0.2.2.1 q (hsub q hq))
  have := h0.2.1
  simp only [List.length_cons] at this
  omega

theorem argOf_len (t : List C) (k : Int) : (argOf t k).length ≤ 40 := by
  by_cases h : trm t = true
  · by_cases hk : 0 ≤ k
    · obtain ⟨f, c, ks, e, hl, hks⟩ : ∃ f c ks, t = c :: ks.flatten ∧ ((ks : List (List C)).length : Int) = ari c ∧ ∀ k ∈ ks, Tm f k := by
        have := trm_tree h
        obtain ⟨n, hn⟩ : ∃ n, t.length = n + 1 := ⟨t.length - 1, by have := (trm_iff t).1 h; omega⟩
        rw [hn] at this
        obtain ⟨c, ks, e, hl, hk⟩ := this
        exact ⟨n, c, ks, e, hl, hk⟩
      subst e
      rw [argOf_at h hl hks hk]
      rcases hq : ks[k.toNat]? with _ | q
      · simp
      · have := arg_trm h hks (List.mem_of_getElem? hq)
        exact ((trm_iff q).1 this).2.1
    · rw [argOf_neg (by omega)]; simp
  · rw [argOf_no (by simpa using h)]; simp

end Go.Proofs.YthelpghiafbejaaDoor
