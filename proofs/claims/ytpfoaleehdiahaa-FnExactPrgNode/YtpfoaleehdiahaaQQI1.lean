/- A goal of the program by what it was made of; a clause that is checked. -/
import Derived.Test.YtpfoaleehdiahaaQGI7
import Derived.Test.YtpfoaleehdiahaaQQP6
namespace Go.Proofs.Ytpfoaleehdiahaa
open Go.RowKit Go.Shelf
set_option linter.unusedVariables false
set_option linter.unusedSimpArgs false

theorem Goal_call.kept {lo hi : Nat} {a b c : List C} {W W' : World} {v : Value} (h : Goal_call lo hi a b c W v) (hk : ∀ b, lo ≤ b → b < hi → W'.heap[b]? = W.heap[b]?) : Goal_call lo hi a b c W' v := by
  rcases h with ⟨hw, p, rfl, Ta⟩ | ⟨hw, rfl⟩
  · exact .inl ⟨hw, p, rfl, Ta.kept (Nat.le_refl _) (Nat.le_refl _) hk⟩
  · exact .inr ⟨hw, rfl⟩
theorem Goal_call.one {lo hi : Nat} {a b c : List C} {W : World} {v : Value} (h : Goal_call lo hi a b c W v) : (∃ T u, v = .iface T u) ∨ v = .nilIface := by
  rcases h with ⟨hw, p, rfl, Ta⟩ | ⟨hw, rfl⟩
  · exact .inl ⟨_, _, rfl⟩
  · exact .inr rfl
theorem Goal_same.kept {lo hi : Nat} {a b c : List C} {W W' : World} {v : Value} (h : Goal_same lo hi a b c W v) (hk : ∀ b, lo ≤ b → b < hi → W'.heap[b]? = W.heap[b]?) : Goal_same lo hi a b c W' v := by
  rcases h with ⟨hw, p, q, rfl, Ta, Tb⟩ | ⟨hw, rfl⟩
  · exact .inl ⟨hw, p, q, rfl, Ta.kept (Nat.le_refl _) (Nat.le_refl _) hk, Tb.kept (Nat.le_refl _) (Nat.le_refl _) hk⟩
  · exact .inr ⟨hw, rfl⟩
theorem Goal_same.one {lo hi : Nat} {a b c : List C} {W : World} {v : Value} (h : Goal_same lo hi a b c W v) : (∃ T u, v = .iface T u) ∨ v = .nilIface := by
  rcases h with ⟨hw, p, q, rfl, Ta, Tb⟩ | ⟨hw, rfl⟩
  · exact .inl ⟨_, _, rfl⟩
  · exact .inr rfl
theorem Goal_cut.kept {lo hi : Nat} {a b c : List C} {W W' : World} {v : Value} (h : Goal_cut lo hi a b c W v) (hk : ∀ b, lo ≤ b → b < hi → W'.heap[b]? = W.heap[b]?) : Goal_cut lo hi a b c W' v := by
  rcases h with ⟨hw, rfl⟩ | ⟨hw, rfl⟩
  · exact .inl ⟨hw, rfl⟩
  · exact .inr ⟨hw, rfl⟩
theorem Goal_cut.one {lo hi : Nat} {a b c : List C} {W : World} {v : Value} (h : Goal_cut lo hi a b c W v) : (∃ T u, v = .iface T u) ∨ v = .nilIface := by
  rcases h with ⟨hw, rfl⟩ | ⟨hw, rfl⟩
  · exact .inl ⟨_, _, rfl⟩
  · exact .inr rfl
theorem Goal_less.kept {lo hi : Nat} {a b c : List C} {W W' : World} {v : Value} (h : Goal_less lo hi a b c W v) (hk : ∀ b, lo ≤ b → b < hi → W'.heap[b]? = W.heap[b]?) : Goal_less lo hi a b c W' v := by
  rcases h with ⟨hw, p, q, rfl, Ta, Tb⟩ | ⟨hw, rfl⟩
  · exact .inl ⟨hw, p, q, rfl, Ta.kept (Nat.le_refl _) (Nat.le_refl _) hk, Tb.kept (Nat.le_refl _) (Nat.le_refl _) hk⟩
  · exact .inr ⟨hw, rfl⟩
theorem Goal_less.one {lo hi : Nat} {a b c : List C} {W : World} {v : Value} (h : Goal_less lo hi a b c W v) : (∃ T u, v = .iface T u) ∨ v = .nilIface := by
  rcases h with ⟨hw, p, q, rfl, Ta, Tb⟩ | ⟨hw, rfl⟩
  · exact .inl ⟨_, _, rfl⟩
  · exact .inr rfl
theorem Goal_plus.kept {lo hi : Nat} {a b c : List C} {W W' : World} {v : Value} (h : Goal_plus lo hi a b c W v) (hk : ∀ b, lo ≤ b → b < hi → W'.heap[b]? = W.heap[b]?) : Goal_plus lo hi a b c W' v := by
  rcases h with ⟨hw, p, q, r, rfl, Ta, Tb, Tc⟩ | ⟨hw, rfl⟩
  · exact .inl ⟨hw, p, q, r, rfl, Ta.kept (Nat.le_refl _) (Nat.le_refl _) hk, Tb.kept (Nat.le_refl _) (Nat.le_refl _) hk, Tc.kept (Nat.le_refl _) (Nat.le_refl _) hk⟩
  · exact .inr ⟨hw, rfl⟩
theorem Goal_plus.one {lo hi : Nat} {a b c : List C} {W : World} {v : Value} (h : Goal_plus lo hi a b c W v) : (∃ T u, v = .iface T u) ∨ v = .nilIface := by
  rcases h with ⟨hw, p, q, r, rfl, Ta, Tb, Tc⟩ | ⟨hw, rfl⟩
  · exact .inl ⟨_, _, rfl⟩
  · exact .inr rfl
theorem Goal_exit.kept {lo hi : Nat} {a b c : List C} {W W' : World} {v : Value} (h : Goal_exit lo hi a b c W v) (hk : ∀ b, lo ≤ b → b < hi → W'.heap[b]? = W.heap[b]?) : Goal_exit lo hi a b c W' v := by
  rcases h with ⟨hw, p, rfl, Ta⟩ | ⟨hw, rfl⟩
  · exact .inl ⟨hw, p, rfl, Ta.kept (Nat.le_refl _) (Nat.le_refl _) hk⟩
  · exact .inr ⟨hw, rfl⟩
theorem Goal_exit.one {lo hi : Nat} {a b c : List C} {W : World} {v : Value} (h : Goal_exit lo hi a b c W v) : (∃ T u, v = .iface T u) ∨ v = .nilIface := by
  rcases h with ⟨hw, p, rfl, Ta⟩ | ⟨hw, rfl⟩
  · exact .inl ⟨_, _, rfl⟩
  · exact .inr rfl
/-- The program's goal of a goal. -/
def GoF (lo hi : Nat) (x : Gl) (W : World) (v : Value) : Prop := (x.k = 1 ∧ Goal_call lo hi x.a x.b x.c W v) ∨ (x.k = 2 ∧ Goal_same lo hi x.a x.b x.c W v) ∨ (x.k = 3 ∧ Goal_cut lo hi x.a x.b x.c W v) ∨ (x.k = 4 ∧ Goal_less lo hi x.a x.b x.c W v) ∨ (x.k = 5 ∧ Goal_plus lo hi x.a x.b x.c W v) ∨ (x.k = 6 ∧ Goal_exit lo hi x.a x.b x.c W v) ∨ ((x.k < 1 ∨ 6 < x.k) ∧ v = .nilIface)
theorem GoF.kept {lo hi : Nat} {x : Gl} {W W' : World} {v : Value} (h : GoF lo hi x W v) (hk : ∀ b, lo ≤ b → b < hi → W'.heap[b]? = W.heap[b]?) : GoF lo hi x W' v := by
  rcases h with ⟨e, h⟩ | ⟨e, h⟩ | ⟨e, h⟩ | ⟨e, h⟩ | ⟨e, h⟩ | ⟨e, h⟩ | ⟨e, h⟩
  · exact .inl ⟨e, h.kept hk⟩
  · exact .inr (.inl ⟨e, h.kept hk⟩)
  · exact .inr (.inr (.inl ⟨e, h.kept hk⟩))
  · exact .inr (.inr (.inr (.inl ⟨e, h.kept hk⟩)))
  · exact .inr (.inr (.inr (.inr (.inl ⟨e, h.kept hk⟩))))
  · exact .inr (.inr (.inr (.inr (.inr (.inl ⟨e, h.kept hk⟩)))))
  · exact .inr (.inr (.inr (.inr (.inr (.inr ⟨e, h⟩)))))
theorem GoF.below {lo hi : Nat} {x : Gl} {W W' : World} {v : Value} (h : GoF lo hi x W v) (hh : hi ≤ W.heap.size) (hb : Below W.heap.size W W') : GoF lo hi x W' v := h.kept (fun b _ h2 => hb.block b (Nat.lt_of_lt_of_le h2 hh))
theorem GoF.one {lo hi : Nat} {x : Gl} {W : World} {v : Value} (h : GoF lo hi x W v) : (∃ T u, v = .iface T u) ∨ v = .nilIface := by
  rcases h with ⟨e, h⟩ | ⟨e, h⟩ | ⟨e, h⟩ | ⟨e, h⟩ | ⟨e, h⟩ | ⟨e, h⟩ | ⟨e, h⟩
  · exact h.one
  · exact h.one
  · exact h.one
  · exact h.one
  · exact h.one
  · exact h.one
  · exact .inr h
theorem mayStand_gof {lo hi : Nat} {x : Gl} {W : World} {v : Value} (hh : hi ≤ W.heap.size) (h : GoF lo hi x W v) :
    Calls Try.prog 157 #[v] W fun e w' => e = .returned (.bool (goalB x.k x.a x.b x.c)) ∧ Below W.heap.size W w' := by
  rcases h with ⟨e, h⟩ | ⟨e, h⟩ | ⟨e, h⟩ | ⟨e, h⟩ | ⟨e, h⟩ | ⟨e, h⟩ | ⟨e, h⟩
  · rw [e]; exact mayStand_of_call lo hi x.a x.b x.c W v hh h
  · rw [e]; exact mayStand_of_same lo hi x.a x.b x.c W v hh h
  · rw [e]; exact mayStand_of_cut lo hi x.a x.b x.c W v hh h
  · rw [e]; exact mayStand_of_less lo hi x.a x.b x.c W v hh h
  · rw [e]; exact mayStand_of_plus lo hi x.a x.b x.c W v hh h
  · rw [e]; exact mayStand_of_exit lo hi x.a x.b x.c W v hh h
  · subst h
    have hg : goalB x.k x.a x.b x.c = false := by unfold goalB; rw [if_neg (by omega), if_neg (by omega), if_neg (by omega), if_neg (by omega)]
    rw [hg]
    exact (mayStand_nil W).mono fun e w' ⟨h1, h2⟩ => ⟨h1, h2 ▸ Below.refl _ _⟩
theorem goalOf_gl (x : Gl) (v0 v1 v2 v3 : Value) (w : World) (hF : FitGl x) (hs : szGl x ≤ 1048576) (hv : GlV w x v0 v1 v2 v3) :
    Calls Try.prog 139 #[.agg #[v0, v1, v2, v3]] w fun e w' => ∃ v, e = .returned v ∧ GoF w.heap.size w'.heap.size x w' v ∧ Below w.heap.size w w' := by
  unfold szGl at hs
  obtain ⟨rfl, ⟨xa, xc, rfl, a1, a2, hA⟩, ⟨ya, yc, rfl, b1, b2, hB⟩, ⟨za, zc, rfl, c1, c2, hC⟩⟩ := hv
  have T : Trip w xa ya za x.a x.b x.c := ⟨hA, hB, hC, hF.1.1, hF.2.1.1, hF.2.2.1, by omega, by omega, by omega⟩
  by_cases k1 : x.k = 1
  · rw [k1]
    exact (goalOf_call xa ya za xc yc zc x.a x.b x.c w T ⟨a1, a2⟩ ⟨b1, b2⟩ ⟨c1, c2⟩).mono fun e w' ⟨v, h1, h2, h3⟩ => ⟨v, h1, .inl ⟨k1, h2⟩, h3⟩
  by_cases k2 : x.k = 2
  · rw [k2]
    exact (goalOf_same xa ya za xc yc zc x.a x.b x.c w T ⟨a1, a2⟩ ⟨b1, b2⟩ ⟨c1, c2⟩).mono fun e w' ⟨v, h1, h2, h3⟩ => ⟨v, h1, .inr (.inl ⟨k2, h2⟩), h3⟩
  by_cases k3 : x.k = 3
  · rw [k3]
    exact (goalOf_cut xa ya za xc yc zc x.a x.b x.c w T ⟨a1, a2⟩ ⟨b1, b2⟩ ⟨c1, c2⟩).mono fun e w' ⟨v, h1, h2, h3⟩ => ⟨v, h1, .inr (.inr (.inl ⟨k3, h2⟩)), h3⟩
  by_cases k4 : x.k = 4
  · rw [k4]
    exact (goalOf_less xa ya za xc yc zc x.a x.b x.c w T ⟨a1, a2⟩ ⟨b1, b2⟩ ⟨c1, c2⟩).mono fun e w' ⟨v, h1, h2, h3⟩ => ⟨v, h1, .inr (.inr (.inr (.inl ⟨k4, h2⟩))), h3⟩
  by_cases k5 : x.k = 5
  · rw [k5]
    exact (goalOf_plus xa ya za xc yc zc x.a x.b x.c w T ⟨a1, a2⟩ ⟨b1, b2⟩ ⟨c1, c2⟩).mono fun e w' ⟨v, h1, h2, h3⟩ => ⟨v, h1, .inr (.inr (.inr (.inr (.inl ⟨k5, h2⟩)))), h3⟩
  by_cases k6 : x.k = 6
  · rw [k6]
    exact (goalOf_exit xa ya za xc yc zc x.a x.b x.c w T ⟨a1, a2⟩ ⟨b1, b2⟩ ⟨c1, c2⟩).mono fun e w' ⟨v, h1, h2, h3⟩ => ⟨v, h1, .inr (.inr (.inr (.inr (.inr (.inl ⟨k6, h2⟩))))), h3⟩
  exact (goalOf_other x.k (by omega) xa ya za xc yc zc x.a x.b x.c w T ⟨a1, a2⟩ ⟨b1, b2⟩ ⟨c1, c2⟩).mono fun e w' ⟨h1, h3⟩ => ⟨_, h1, .inr (.inr (.inr (.inr (.inr (.inr ⟨by omega, rfl⟩))))), h3⟩
/-- A goal that the program has, not nil. -/
def wholeG (x : Gl) : Bool := if x.k = 1 then whole_call x.a x.b x.c else if x.k = 2 then whole_same x.a x.b x.c else if x.k = 3 then whole_cut x.a x.b x.c else if x.k = 4 then whole_less x.a x.b x.c else if x.k = 5 then whole_plus x.a x.b x.c else if x.k = 6 then whole_exit x.a x.b x.c else false
theorem GoF.yes {lo hi : Nat} {x : Gl} {W : World} {v : Value} (h : GoF lo hi x W v) (hw : wholeG x = true) : ∃ T u, v = .iface T u := by
  unfold wholeG at hw
  rcases h with ⟨e, h⟩ | ⟨e, h⟩ | ⟨e, h⟩ | ⟨e, h⟩ | ⟨e, h⟩ | ⟨e, h⟩ | ⟨e, h⟩
  · simp only [e] at hw
    simp at hw
    rcases h with ⟨h1, p, rfl, Ta⟩ | ⟨h1, rfl⟩
    · exact ⟨_, _, rfl⟩
    · rw [hw] at h1; cases h1
  · simp only [e] at hw
    simp at hw
    rcases h with ⟨h1, p, q, rfl, Ta, Tb⟩ | ⟨h1, rfl⟩
    · exact ⟨_, _, rfl⟩
    · rw [hw] at h1; cases h1
  · simp only [e] at hw
    simp at hw
    rcases h with ⟨h1, rfl⟩ | ⟨h1, rfl⟩
    · exact ⟨_, _, rfl⟩
    · rw [hw] at h1; cases h1
  · simp only [e] at hw
    simp at hw
    rcases h with ⟨h1, p, q, rfl, Ta, Tb⟩ | ⟨h1, rfl⟩
    · exact ⟨_, _, rfl⟩
    · rw [hw] at h1; cases h1
  · simp only [e] at hw
    simp at hw
    rcases h with ⟨h1, p, q, r, rfl, Ta, Tb, Tc⟩ | ⟨h1, rfl⟩
    · exact ⟨_, _, rfl⟩
    · rw [hw] at h1; cases h1
  · simp only [e] at hw
    simp at hw
    rcases h with ⟨h1, p, rfl, Ta⟩ | ⟨h1, rfl⟩
    · exact ⟨_, _, rfl⟩
    · rw [hw] at h1; cases h1
  · rw [if_neg (by omega), if_neg (by omega), if_neg (by omega), if_neg (by omega), if_neg (by omega), if_neg (by omega)] at hw; cases hw
theorem GoF.no {lo hi : Nat} {x : Gl} {W : World} {v : Value} (h : GoF lo hi x W v) (hw : wholeG x = false) : v = .nilIface := by
  unfold wholeG at hw
  rcases h with ⟨e, h⟩ | ⟨e, h⟩ | ⟨e, h⟩ | ⟨e, h⟩ | ⟨e, h⟩ | ⟨e, h⟩ | ⟨e, h⟩
  · simp only [e] at hw
    simp at hw
    rcases h with ⟨h1, p, rfl, Ta⟩ | ⟨h1, rfl⟩
    · rw [hw] at h1; cases h1
    · rfl
  · simp only [e] at hw
    simp at hw
    rcases h with ⟨h1, p, q, rfl, Ta, Tb⟩ | ⟨h1, rfl⟩
    · rw [hw] at h1; cases h1
    · rfl
  · simp only [e] at hw
    simp at hw
    rcases h with ⟨h1, rfl⟩ | ⟨h1, rfl⟩
    · rw [hw] at h1; cases h1
    · rfl
  · simp only [e] at hw
    simp at hw
    rcases h with ⟨h1, p, q, rfl, Ta, Tb⟩ | ⟨h1, rfl⟩
    · rw [hw] at h1; cases h1
    · rfl
  · simp only [e] at hw
    simp at hw
    rcases h with ⟨h1, p, q, r, rfl, Ta, Tb, Tc⟩ | ⟨h1, rfl⟩
    · rw [hw] at h1; cases h1
    · rfl
  · simp only [e] at hw
    simp at hw
    rcases h with ⟨h1, p, rfl, Ta⟩ | ⟨h1, rfl⟩
    · rw [hw] at h1; cases h1
    · rfl
  · exact h
end Go.Proofs.Ytpfoaleehdiahaa
