/- Trees as shapes with what they hold; the walk of TrmArg. -/
import Derived.Test.YtoanmnmodlocgaaDoorQT4
import Derived.Test.YtoanmnmodlocgaaDoorQW6W7W18
namespace Go.Proofs.YtoanmnmodlocgaaDoor
open Go.RowKit Go.Shelf
set_option linter.unusedVariables false
set_option linter.unusedSimpArgs false

theorem Tre.tm {S : Nat → Prop} {W : World} : ∀ {f p : Nat} {z : List (Nat × C)}, Tre S W f p z → Tm f (z.map (·.2))
  | f + 1, p, z, ⟨c, ks, ao, cap, e, hp, hl, hn, hr, hs⟩ => by
      refine ⟨c, ks.map (fun k => k.2.map (·.2)), ?_, by simpa using hl.2, fun k hk => ?_⟩
      · rw [e, List.map_cons, List.map_flatten, List.map_map]; rfl
      · obtain ⟨q, hq, rfl⟩ := List.mem_map.1 hk
        exact (hs q hq).tm

theorem Tre.shp {S : Nat → Prop} {n₀ : Nat} {W : World} (hS : ∀ b, S b → b < n₀) : ∀ {f p : Nat} {z : List (Nat × C)}, Tre S W f p z → Shp n₀ W f p (z.map (·.1))
  | f + 1, p, z, ⟨c, ks, ao, cap, e, hp, hl, hn, hr, hs⟩ => by
      refine ⟨ks.map (fun k => (k.1, k.2.map (·.1))), ao, cap, ?_, hS p hp, by rw [List.length_map]; unfold maxLen; omega, by rw [List.length_map]; exact hn.cell, ?_, ?_⟩
      · rw [e, List.map_cons, List.map_flatten, List.map_map, List.map_map]; rfl
      · rcases hr with rfl | ⟨q, e, hq, h⟩
        · exact .inl rfl
        · refine .inr ⟨q, e, hS q hq, fun i hi => ?_⟩
          rw [List.length_map] at hi
          rw [h i hi, List.getElem_map]
      · intro k hk
        obtain ⟨q, hq, rfl⟩ := List.mem_map.1 hk
        exact (hs q hq).shp hS

theorem Tre.held {S : Nat → Prop} {n₀ : Nat} {W : World} (hS : ∀ b, S b → b < n₀) : ∀ {f p : Nat} {z : List (Nat × C)}, Tre S W f p z → ∀ x ∈ z, Held n₀ W x
  | f + 1, p, z, ⟨c, ks, ao, cap, e, hp, hl, hn, hr, hs⟩, x, hx => by
      rw [e] at hx
      rcases List.mem_cons.1 hx with rfl | hx
      · exact ⟨hS p hp, hn.cells.1, hn.cells.2.1, hn.cells.2.2⟩
      · obtain ⟨l, hl, hx⟩ := List.mem_flatten.1 hx
        obtain ⟨k, hk, rfl⟩ := List.mem_map.1 hl
        exact (hs k hk).held hS x hx

/-- The first m terms of places. -/
def split : Nat → List C → List (List C)
  | 0, _ => []
  | m + 1, t => match ends 1 t with
    | some j => t.take j :: split m (t.drop j)
    | none => []

theorem split_trees {f : Nat} (r : List C) : ∀ (ks : List (List C)), (∀ k ∈ ks, Tm f k) → split ks.length (ks.flatten ++ r) = ks
  | [], _ => rfl
  | k :: ks, h => by
      have e := ends_of_tree f k (h k (by simp)) 0 (ks.flatten ++ r)
      have z : ∀ r, ends (0 : Nat) r = some 0 := fun r => by cases r <;> simp [ends]
      rw [z] at e
      simp at e
      rw [List.flatten_cons, List.append_assoc, List.length_cons]
      simp only [split, e]
      rw [List.take_left, List.drop_left, split_trees r ks (fun q hq => h q (by simp [hq]))]

/-- The k-th argument of places that are a term. -/
def argOf (t : List C) (k : Int) : List C := if trm t = true ∧ 0 ≤ k then ((split (ari (t.headD ⟨0, 0, ByteArray.empty⟩)).toNat t.tail)[k.toNat]?).getD [] else []

theorem argOf_no {t : List C} {k : Int} (h : trm t = false) : argOf t k = [] := by simp [argOf, h]
theorem argOf_neg {t : List C} {k : Int} (h : k < 0) : argOf t k = [] := by
  unfold argOf; rw [if_neg (fun h' => by omega)]
theorem argOf_at {f : Nat} {c : C} {ks : List (List C)} (ht : trm (c :: ks.flatten) = true) (hl : (ks.length : Int) = ari c) (hk : ∀ k ∈ ks, Tm f k) {i : Int} (hi : 0 ≤ i) : argOf (c :: ks.flatten) i = (ks[i.toNat]?).getD [] := by
  unfold argOf
  rw [if_pos ⟨ht, hi⟩]
  have := split_trees [] ks hk
  rw [List.append_nil] at this
  simp only [List.headD_cons, List.tail_cons]
  rw [← hl, Int.toNat_natCast, this]

theorem arg_trm {f : Nat} {c : C} {ks : List (List C)} (ht : trm (c :: ks.flatten) = true) (hk : ∀ k ∈ ks, Tm f k) {k : List C} (h : k ∈ ks) : trm k = true := by
  have h0 := (trm_iff _).1 ht
  have hsub : ∀ q ∈ k, q ∈ c :: ks.flatten := fun q hq => List.mem_cons_of_mem _ (List.mem_flatten.2 ⟨k, h, hq⟩)
  have hlen : k.length ≤ ks.flatten.length := by
    have := (List.sublist_flatten_of_mem h).length_le
    exact this
  refine tree_trm (hk k h) ?_ (fun q hq => h0.2.2.1 q (hsub q hq))
  have := h0.2.1
  simp only [List.length_cons] at this
  omega

theorem argOf_len (t : List C) (k : Int) : (argOf t k).length ≤ 40 := by
  by_cases h : trm t = true
  · by_cases hk : 0 ≤ k
    · obtain ⟨f, c, ks, e, hl, hks⟩ : ∃ f c ks, t = c :: ks.flatten ∧ ((ks : List (List C)).length : Int) = ari c ∧ ∀ k ∈ ks, Tm f k := by
        have := trm_tree h
        obtain ⟨n, hn⟩ : ∃ n, t.length = n + 1 := ⟨t.length - 1, by have := (trm_iff t).1 h; omega⟩
        rw [hn] at this
        obtain ⟨c, ks, e, hl, hk⟩ := this
        exact ⟨n, c, ks, e, hl, hk⟩
      subst e
      rw [argOf_at h hl hks hk]
      rcases hq : ks[k.toNat]? with _ | q
      · simp
      · have := arg_trm h hks (List.mem_of_getElem? hq)
        exact ((trm_iff q).1 this).2.1
    · rw [argOf_neg (by omega)]; simp
  · rw [argOf_no (by simpa using h)]; simp

end Go.Proofs.YtoanmnmodlocgaaDoor
