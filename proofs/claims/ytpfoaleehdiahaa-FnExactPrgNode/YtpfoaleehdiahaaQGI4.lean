/- The walk of mayStand, kind by kind. -/
import Derived.Test.YtpfoaleehdiahaaQGI3
namespace Go.Proofs.Ytpfoaleehdiahaa
open Go.RowKit Go.Shelf
set_option linter.unusedVariables false
set_option linter.unusedSimpArgs false

/-- A tree somewhere below, with its places. -/
def TreIn (w : World) (p : Nat) (t : List C) : Prop := ∃ f z, Tre (fun b => b < w.heap.size) w f p z ∧ z.map (·.2) = t ∧ t.length ≤ 40
theorem TreIn.below {w w' : World} {p : Nat} {t : List C} (h : TreIn w p t) (hb : Below w.heap.size w w') : TreIn w' p t := by
  obtain ⟨f, z, hT, e, hl⟩ := h
  exact ⟨f, z, hT.kept (W' := w') (fun b hb' => Nat.lt_of_lt_of_le hb' hb.size) (fun b hb' => hb.block b hb'), e, hl⟩
theorem Tre.shpG {n₀ : Nat} {W : World} : ∀ {f p : Nat} {z : List (Nat × C)}, Tre (fun b => b < n₀) W f p z → Shp n₀ W f p (z.map (·.1))
  | f + 1, p, z, ⟨c, ks, ao, cap, e, hp, hl, hn, hr, hs⟩ => by
      refine ⟨ks.map (fun k => (k.1, k.2.map (·.1))), ao, cap, ?_, hp, by simp [maxLen]; omega, ?_, ?_, ?_⟩
      · rw [e]; simp [List.map_flatten, List.map_map, Function.comp_def]
      · rw [List.length_map]; exact hn.cell
      · rcases hr with hr | ⟨q, e1, hq, hr⟩
        · left; rw [hr]; rfl
        · refine .inr ⟨q, e1, hq, fun i hi => ?_⟩
          rw [List.length_map] at hi
          simpa using hr i hi
      · intro k hk
        obtain ⟨k', hk', rfl⟩ := List.mem_map.1 hk
        exact (hs k' hk').shpG
theorem Tre.heldG {n₀ : Nat} {W : World} : ∀ {f p : Nat} {z : List (Nat × C)}, Tre (fun b => b < n₀) W f p z → ∀ x ∈ z, Held n₀ W x
  | f + 1, p, z, ⟨c, ks, ao, cap, e, hp, hl, hn, hr, hs⟩, x, hx => by
      rw [e] at hx
      rcases List.mem_cons.1 hx with rfl | hx
      · exact ⟨hp, hn.cells⟩
      · obtain ⟨l, hl', hx⟩ := List.mem_flatten.1 hx
        obtain ⟨k, hk, rfl⟩ := List.mem_map.1 hl'
        exact (hs k hk).heldG x hx

/-- A term that is one may stand in a clause. -/
def fitT (t : List C) : Bool := decide (t.length ≤ 12) && !(t.any (overC 8))
theorem fits_tree {w : World} {p : Nat} {t : List C} (h : TreIn w p t) :
    Calls Try.prog 166 #[.pointer (some ⟨p, 0, none⟩)] w fun e w' => e = .returned (.bool (fitT t)) ∧ Below w.heap.size w w' := by
  obtain ⟨f, z, hT, e, hl⟩ := h
  have hzl : z.length = t.length := by rw [← e]; simp
  refine (fitsClause_any f p z w hT.shpG hT.heldG (by omega)).mono ?_
  rintro e' w' ⟨rfl, hb⟩
  refine ⟨?_, hb⟩
  have h2 : (z.any fun x => overC 8 x.2) = t.any (overC 8) := by rw [← e, List.any_map]; rfl
  rw [hzl, h2]
  rfl
theorem TreIn.top {w : World} {p : Nat} {t : List C} (h : TreIn w p t) : ∃ c r, t = c :: r ∧ w.cell? ⟨p, 0, none⟩ = some (.int .i64 c.k) := by
  obtain ⟨f, z, hT, e, hl⟩ := h
  match f, hT with
  | f + 1, ⟨c, ks, ao, cap, ez, hp, hk, hn, hr, hs⟩ =>
    exact ⟨c, _, by rw [← e, ez]; rfl, hn.cells.1⟩
end Go.Proofs.Ytpfoaleehdiahaa
