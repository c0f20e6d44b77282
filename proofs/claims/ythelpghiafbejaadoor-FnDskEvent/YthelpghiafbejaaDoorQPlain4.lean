/- The plain mathematics of terms as trees: a place, and as many terms behind it as it has arguments. -/
import Derived.Test.YthelpghiafbejaaDoorQPlain
namespace Go.Proofs.YthelpghiafbejaaDoor
set_option linter.unusedSimpArgs false
set_option linter.unusedVariables false

/-- Places are one tree, no higher than f. -/
def Tm : Nat → List C → Prop
  | 0, _ => False
  | f + 1, t => ∃ (c : C) (ks : List (List C)), t = c :: ks.flatten ∧ (ks.length : Int) = ari c ∧ ∀ k ∈ ks, Tm f k

theorem Tm.mono : ∀ {f g : Nat} {t : List C}, Tm f t → f ≤ g → Tm g t
  | f + 1, g + 1, t, ⟨c, ks, e, hl, hk⟩, h => ⟨c, ks, e, hl, fun k hm => (hk k hm).mono (by omega)⟩

theorem Tm.pos : ∀ {f : Nat} {t : List C}, Tm f t → 1 ≤ t.length
  | f + 1, t, ⟨c, ks, e, hl, hk⟩ => by rw [e]; simp

theorem ends_trees : ∀ (t : List C) (m : Nat) (j : Nat), (∀ c ∈ t, 0 ≤ ari c) → ends m t = some j → ∃ ks : List (List C), ks.length = m ∧ ks.flatten = t.take j ∧ ∀ k ∈ ks, Tm t.length k
  | [], m, j, _, h => by
      by_cases hm : (m : Int) ≤ 0
      · exact ⟨[], by simp; omega, by simp, by simp⟩
      · simp [ends, hm] at h; omega
  | c :: r, m, j, ha, h => by
      by_cases hm : (m : Int) ≤ 0
      · have hm0 : m = 0 := by omega
        subst hm0
        simp [ends] at h
        exact ⟨[], by simp, by simp [← h], by simp⟩
      · simp only [ends, if_neg hm, Option.map_eq_some_iff] at h
        obtain ⟨j', hj, rfl⟩ := h
        have hc := ha c (by simp)
        obtain ⟨a, hae⟩ : ∃ a : Nat, (a : Int) = ari c := ⟨(ari c).toNat, by omega⟩
        rw [← hae, show (m : Int) - 1 + a = ((m - 1 + a : Nat) : Int) by omega] at hj
        obtain ⟨ks, hl, hf, hk⟩ := ends_trees r (m - 1 + a) j' (fun c' h' => ha c' (by simp [h'])) hj
        refine ⟨(c :: (ks.take a).flatten) :: ks.drop a, by simp; omega, ?_, ?_⟩
        · rw [List.flatten_cons, List.take_succ_cons, ← hf, List.cons_append, ← List.flatten_append, List.take_append_drop]
        · intro k hkm
          rcases List.mem_cons.1 hkm with rfl | hkm
          · exact ⟨c, ks.take a, rfl, by rw [List.length_take, ← hae]; omega, fun k' h' => hk k' (List.mem_of_mem_take h')⟩
          · exact (hk k (List.mem_of_mem_drop hkm)).mono (by simp)

theorem trm_tree {t : List C} (h : trm t = true) : Tm t.length t := by
  obtain ⟨h1, h2, h3, h4⟩ := (trm_iff t).1 h
  obtain ⟨ks, hl, hf, hk⟩ := ends_trees t 1 t.length (fun c hc => (ari_ok (h3 c hc)).1) h4
  match ks, hl with
  | [k], _ =>
    simp at hf
    subst hf
    exact hk k (by simp)

theorem ends_of_tree : ∀ (f : Nat) (t : List C), Tm f t → ∀ (m : Nat) (r : List C), ends (m + 1) (t ++ r) = (ends m r).map (· + t.length)
  | f + 1, t, ⟨c, ks, e, hl, hk⟩, m, r => by
      have all : ∀ (ks : List (List C)), (∀ k ∈ ks, Tm f k) → ∀ (m : Nat), ends ((m + ks.length : Nat) : Int) (ks.flatten ++ r) = (ends m r).map (· + ks.flatten.length) := by
        intro ks
        induction ks with
        | nil => intro _ m; simp
        | cons k ks ih =>
          intro hk m
          have e1 := ends_of_tree f k (hk k (by simp)) (m + ks.length) (ks.flatten ++ r)
          have e2 := ih (fun k' h' => hk k' (by simp [h'])) m
          rw [List.flatten_cons, List.append_assoc, List.length_cons, show ((m + (ks.length + 1) : Nat) : Int) = ((m + ks.length : Nat) : Int) + 1 by omega, e1, e2, Option.map_map, List.length_append]
          congr 1
          funext x
          simp; omega
      subst e
      rw [List.cons_append]
      simp only [ends]
      rw [if_neg (by omega), show (m : Int) + 1 - 1 + ari c = ((m + ks.length : Nat) : Int) by omega, all ks hk m, Option.map_map]
      congr 1

theorem tree_trm {f : Nat} {t : List C} (h : Tm f t) (hl : t.length ≤ 40) (ho : ∀ c ∈ t, okC c = true) : trm t = true := by
  refine (trm_iff t).2 ⟨h.pos, hl, ho, ?_⟩
  have := ends_of_tree f t h 0 []
  simp [ends] at this
  exact this

/-- Terms one behind another are told apart by where they end. -/
theorem trees_one : ∀ {f : Nat} (ks ks' : List (List C)), (∀ k ∈ ks, Tm f k) → (∀ k ∈ ks', Tm f k) → ks.flatten = ks'.flatten → ks = ks'
  | f, [], [], _, _, _ => rfl
  | f, [], k :: ks', _, h, e => by
      have h1 := (h k (by simp)).pos
      have h2 := congrArg List.length e
      rw [List.flatten_cons, List.length_append] at h2
      simp only [List.flatten_nil, List.length_nil] at h2
      omega
  | f, k :: ks, [], h, _, e => by
      have h1 := (h k (by simp)).pos
      have h2 := congrArg List.length e
      rw [List.flatten_cons, List.length_append] at h2
      simp only [List.flatten_nil, List.length_nil] at h2
      omega
  | f, k :: ks, k' :: ks', h, h', e => by
      have e1 := ends_of_tree f k (h k (by simp)) 0 ks.flatten
      have e2 := ends_of_tree f k' (h' k' (by simp)) 0 ks'.flatten
      rw [List.flatten_cons, List.flatten_cons] at e
      rw [e, e2] at e1
      have z : ∀ r, ends (0 : Nat) r = some 0 := fun r => by cases r <;> simp [ends]
      rw [z, z] at e1
      simp at e1
      obtain ⟨rfl, e3⟩ := List.append_inj e e1.symm
      rw [trees_one ks ks' (fun q hq => h q (by simp [hq])) (fun q hq => h' q (by simp [hq])) e3]
end Go.Proofs.YthelpghiafbejaaDoor
