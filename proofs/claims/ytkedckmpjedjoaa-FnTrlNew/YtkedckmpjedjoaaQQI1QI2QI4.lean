import Derived.Test.YtkedckmpjedjoaaQGI7PB1SB1
import Derived.Test.YtkedckmpjedjoaaQQP5QP6
/- A goal of the program by what it was made of; a clause that is checked. -/
namespace Go.Proofs.Ytkedckmpjedjoaa
open Go.RowKit Go.Shelf
set_option linter.unusedVariables false
set_option linter.unusedSimpArgs false

theorem Goal_call.kept {lo hi : Nat} {a b c : List C} {W W' : World} {v : Value} (h : Goal_call lo hi a b c W v) (hk : ∀ b, lo ≤ b → b < hi → W'.heap[b]? = W.heap[b]?) : Goal_call lo hi a b c W' v := by
  rcases h with ⟨hw, p, rfl, Ta⟩ | ⟨hw, rfl⟩
  · exact .inl ⟨hw, p, rfl, Ta.kept (Nat.le_refl _) (Nat.le_refl _) hk⟩
  · exact .inr ⟨hw, rfl⟩
theorem Goal_call.one {lo hi : Nat} {a b c : List C} {W : World} {v : Value} (h : Goal_call lo hi a b c W v) : (∃ T u, v = .iface T u) ∨ v = .nilIface := by
  rcases h with ⟨hw, p, rfl, Ta⟩ | ⟨hw, rfl⟩
  · exact .inl ⟨_, _, rfl⟩
  · exact .inr rfl
theorem Goal_same.kept {lo hi : Nat} {a b c : List C} {W W' : World} {v : Value} (h : Goal_same lo hi a b c W v) (hk : ∀ b, lo ≤ b → b < hi → W'.heap[b]? = W.heap[b]?) : Goal_same lo hi a b c W' v := by
  rcases h with ⟨hw, p, q, rfl, Ta, Tb⟩ | ⟨hw, rfl⟩
  · exact .inl ⟨hw, p, q, rfl, Ta.kept (Nat.le_refl _) (Nat.le_refl _) hk, Tb.kept (Nat.le_refl _) (Nat.le_refl _) hk⟩
  · exact .inr ⟨hw, rfl⟩
theorem Goal_same.one {lo hi : Nat} {a b c : List C} {W : World} {v : Value} (h : Goal_same lo hi a b c W v) : (∃ T u, v = .iface T u) ∨ v = .nilIface := by
  rcases h with ⟨hw, p, q, rfl, Ta, Tb⟩ | ⟨hw, rfl⟩
  · exact .inl ⟨_, _, rfl⟩
  · exact .inr rfl
theorem Goal_cut.kept {lo hi : Nat} {a b c : List C} {W W' : World} {v : Value} (h : Goal_cut lo hi a b c W v) (hk : ∀ b, lo ≤ b → b < hi → W'.heap[b]? = W.heap[b]?) : Goal_cut lo hi a b c W' v := by
  rcases h with ⟨hw, rfl⟩ | ⟨hw, rfl⟩
  · exact .inl ⟨hw, rfl⟩
  · exact .inr ⟨hw, rfl⟩
theorem Goal_cut.one {lo hi : Nat} {a b c : List C} {W : World} {v : Value} (h : Goal_cut lo hi a b c W v) : (∃ T u, v = .iface T u) ∨ v = .nilIface := by
  rcases h with ⟨hw, rfl⟩ | ⟨hw, rfl⟩
  · exact .inl ⟨_, _, rfl⟩
  · exact .inr rfl
theorem Goal_less.kept {lo hi : Nat} {a b c : List C} {W W' : World} {v : Value} (h : Goal_less lo hi a b c W v) (hk : ∀ b, lo ≤ b → b < hi → W'.heap[b]? = W.heap[b]?) : Goal_less lo hi a b c W' v := by
  rcases h with ⟨hw, p, q, rfl, Ta, Tb⟩ | ⟨hw, rfl⟩
  · exact .inl ⟨hw, p, q, rfl, Ta.kept (Nat.le_refl _) (Nat.le_refl _) hk, Tb.kept (Nat.le_refl _) (Nat.le_refl _) hk⟩
  · exact .inr ⟨hw, rfl⟩
theorem Goal_less.one {lo hi : Nat} {a b c : List C} {W : World} {v : Value} (h : Goal_less lo hi a b c W v) : (∃ T u, v = .iface T u) ∨ v = .nilIface := by
  rcases h with ⟨hw, p, q, rfl, Ta, Tb⟩ | ⟨hw, rfl⟩
  · exact .inl ⟨_, _, rfl⟩
  · exact .inr rfl
theorem Goal_plus.kept {lo hi : Nat} {a b c : List C} {W W' : World} {v : Value} (h : Goal_plus lo hi a b c W v) (hk : ∀ b, lo ≤ b → b < hi → W'.heap[b]? = W.heap[b]?) : Goal_plus lo hi a b c W' v := by
  rcases h with ⟨hw, p, q, r, rfl, Ta, Tb, Tc⟩ | ⟨hw, rfl⟩
  · exact .inl ⟨hw, p, q, r, rfl, Ta.kept (Nat.le_refl _) (Nat.le_refl _) hk, Tb.kept (Nat.le_refl _) (Nat.le_refl _) hk, Tc.kept (Nat.le_refl _) (Nat.le_refl _) hk⟩
  · exact .inr ⟨hw, rfl⟩
theorem Goal_plus.one {lo hi : Nat} {a b c : List C} {W : World} {v : Value} (h : Goal_plus lo hi a b c W v) : (∃ T u, v = .iface T u) ∨ v = .nilIface := by
  rcases h with ⟨hw, p, q, r, rfl, Ta, Tb, Tc⟩ | ⟨hw, rfl⟩
  · exact .inl ⟨_, _, rfl⟩
  · exact .inr rfl
theorem Goal_exit.kept {lo hi : Nat} {a b c : List C} {W W' : World} {v : Value} (h : Goal_exit lo hi a b c W v) (hk : ∀ b, lo ≤ b → b < hi → W'.heap[b]? = W.heap[b]?) : Goal_exit lo hi a b c W' v := by
  rcases h with ⟨hw, p, rfl, Ta⟩ | ⟨hw, rfl⟩
  · exact .inl ⟨hw, p, rfl, Ta.kept (Nat.le_refl _) (Nat.le_refl _) hk⟩
  · exact .inr ⟨hw, rfl⟩
theorem Goal_exit.one {lo hi : Nat} {a b c : List C} {W : World} {v : Value} (h : Goal_exit lo hi a b c W v) : (∃ T u, v = .iface T u) ∨ v = .nilIface := by
  rcases h with ⟨hw, p, rfl, Ta⟩ | ⟨hw, rfl⟩
  · exact .inl ⟨_, _, rfl⟩
  · exact .inr rfl
/-- The program's goal of a goal. -/
def GoF (lo hi : Nat) (x : Gl) (W : World) (v : Value) : Prop := (x.k = 1 ∧ Goal_call lo hi x.a x.b x.c W v) ∨ (x.k = 2 ∧ Goal_same lo hi x.a x.b x.c W v) ∨ (x.k = 3 ∧ Goal_cut lo hi x.a x.b x.c W v) ∨ (x.k = 4 ∧ Goal_less lo hi x.a x.b x.c W v) ∨ (x.k = 5 ∧ Goal_plus lo hi x.a x.b x.c W v) ∨ (x.k = 6 ∧ Goal_exit lo hi x.a x.b x.c W v) ∨ ((x.k < 1 ∨ 6 < x.k) ∧ v = .nilIface)
theorem GoF.kept {lo hi : Nat} {x : Gl} {W W' : World} {v : Value} (h : GoF lo hi x W v) (hk : ∀ b, lo ≤ b → b < hi → W'.heap[b]? = W.heap[b]?) : GoF lo hi x W' v := by
  rcases h with ⟨e, h⟩ | ⟨e, h⟩ | ⟨e, h⟩ | ⟨e, h⟩ | ⟨e, h⟩ | ⟨e, h⟩ | ⟨e, h⟩
  · exact .inl ⟨e, h.kept hk⟩
  · exact .inr (.inl ⟨e, h.kept hk⟩)
  · exact .inr (.inr (.inl ⟨e, h.kept hk⟩))
  · exact .inr (.inr (.inr (.inl ⟨e, h.kept hk⟩)))
  · exact .inr (.inr (.inr (.inr (.inl ⟨e, h.kept hk⟩))))
  · exact .inr (.inr (.inr (.inr (.inr (.inl ⟨e, h.kept hk⟩)))))
  · exact .inr (.inr (.inr (.inr (.inr (.inr ⟨e, h⟩)))))
theorem GoF.below {lo hi : Nat} {x : Gl} {W W' : World} {v : Value} (h : GoF lo hi x W v) (hh : hi ≤ W.heap.size) (hb : Below W.heap.size W W') : GoF lo hi x W' v := h.kept (fun b _ h2 => hb.block b (Nat.lt_of_lt_of_le h2 hh))
theorem GoF.one {lo hi : Nat} {x : Gl} {W : World} {v : Value} (h : GoF lo hi x W v) : (∃ T u, v = .iface T u) ∨ v = .nilIface := by
  rcases h with ⟨e, h⟩ | ⟨e, h⟩ | ⟨e, h⟩ | ⟨e, h⟩ | ⟨e, h⟩ | ⟨e, h⟩ | ⟨e, h⟩
  · exact h.one
  · exact h.one
  · exact h.one
  · exact h.one
  · exact h.one
  · exact h.one
  · exact .inr h
theorem mayStand_gof {lo hi : Nat} {x : Gl} {W : World} {v : Value} (hh : hi ≤ W.heap.size) (h : GoF lo hi x W v) :
    Calls Try.prog 169 #[v] W fun e w' => e = .returned (.bool (goalB x.k x.a x.b x.c)) ∧ Below W.heap.size W w' := by
  rcases h with ⟨e, h⟩ | ⟨e, h⟩ | ⟨e, h⟩ | ⟨e, h⟩ | ⟨e, h⟩ | ⟨e, h⟩ | ⟨e, h⟩
  · rw [e]; exact mayStand_of_call lo hi x.a x.b x.c W v hh h
  · rw [e]; exact mayStand_of_same lo hi x.a x.b x.c W v hh h
  · rw [e]; exact mayStand_of_cut lo hi x.a x.b x.c W v hh h
  · rw [e]; exact mayStand_of_less lo hi x.a x.b x.c W v hh h
  · rw [e]; exact mayStand_of_plus lo hi x.a x.b x.c W v hh h
  · rw [e]; exact mayStand_of_exit lo hi x.a x.b x.c W v hh h
  · subst h
    have hg : goalB x.k x.a x.b x.c = false := by unfold goalB; rw [if_neg (by omega), if_neg (by omega), if_neg (by omega), if_neg (by omega)]
    rw [hg]
    exact (mayStand_nil W).mono fun e w' ⟨h1, h2⟩ => ⟨h1, h2 ▸ Below.refl _ _⟩
theorem goalOf_gl (x : Gl) (v0 v1 v2 v3 : Value) (w : World) (hF : FitGl x) (hs : szGl x ≤ 1048576) (hv : GlV w x v0 v1 v2 v3) :
    Calls Try.prog 146 #[.agg #[v0, v1, v2, v3]] w fun e w' => ∃ v, e = .returned v ∧ GoF w.heap.size w'.heap.size x w' v ∧ Below w.heap.size w w' := by
  unfold szGl at hs
  obtain ⟨rfl, ⟨xa, xc, rfl, a1, a2, hA⟩, ⟨ya, yc, rfl, b1, b2, hB⟩, ⟨za, zc, rfl, c1, c2, hC⟩⟩ := hv
  have T : Trip w xa ya za x.a x.b x.c := ⟨hA, hB, hC, hF.1.1, hF.2.1.1, hF.2.2.1, by omega, by omega, by omega⟩
  by_cases k1 : x.k = 1
  · rw [k1]
    exact (goalOf_call xa ya za xc yc zc x.a x.b x.c w T ⟨a1, a2⟩ ⟨b1, b2⟩ ⟨c1, c2⟩).mono fun e w' ⟨v, h1, h2, h3⟩ => ⟨v, h1, .inl ⟨k1, h2⟩, h3⟩
  by_cases k2 : x.k = 2
  · rw [k2]
    exact (goalOf_same xa ya za xc yc zc x.a x.b x.c w T ⟨a1, a2⟩ ⟨b1, b2⟩ ⟨c1, c2⟩).mono fun e w' ⟨v, h1, h2, h3⟩ => ⟨v, h1, .inr (.inl ⟨k2, h2⟩), h3⟩
  by_cases k3 : x.k = 3
  · rw [k3]
    exact (goalOf_cut xa ya za xc yc zc x.a x.b x.c w T ⟨a1, a2⟩ ⟨b1, b2⟩ ⟨c1, c2⟩).mono fun e w' ⟨v, h1, h2, h3⟩ => ⟨v, h1, .inr (.inr (.inl ⟨k3, h2⟩)), h3⟩
  by_cases k4 : x.k = 4
  · rw [k4]
    exact (goalOf_less xa ya za xc yc zc x.a x.b x.c w T ⟨a1, a2⟩ ⟨b1, b2⟩ ⟨c1, c2⟩).mono fun e w' ⟨v, h1, h2, h3⟩ => ⟨v, h1, .inr (.inr (.inr (.inl ⟨k4, h2⟩))), h3⟩
  by_cases k5 : x.k = 5
  · rw [k5]
    exact (goalOf_plus xa ya za xc yc zc x.a x.b x.c w T ⟨a1, a2⟩ ⟨b1, b2⟩ ⟨c1, c2⟩).mono fun e w' ⟨v, h1, h2, h3⟩ => ⟨v, h1, .inr (.inr (.inr (.inr (.inl ⟨k5, h2⟩)))), h3⟩
  by_cases k6 : x.k = 6
  · rw [k6]
    exact (goalOf_exit xa ya za xc yc zc x.a x.b x.c w T ⟨a1, a2⟩ ⟨b1, b2⟩ ⟨c1, c2⟩).mono fun e w' ⟨v, h1, h2, h3⟩ => ⟨v, h1, .inr (.inr (.inr (.inr (.inr (.inl ⟨k6, h2⟩))))), h3⟩
  exact (goalOf_other x.k (by omega) xa ya za xc yc zc x.a x.b x.c w T ⟨a1, a2⟩ ⟨b1, b2⟩ ⟨c1, c2⟩).mono fun e w' ⟨h1, h3⟩ => ⟨_, h1, .inr (.inr (.inr (.inr (.inr (.inr ⟨by omega, rfl⟩))))), h3⟩
/-- A goal that the program has, not nil. -/
def wholeG (x : Gl) : Bool := if x.k = 1 then whole_call x.a x.b x.c else if x.k = 2 then whole_same x.a x.b x.c else if x.k = 3 then whole_cut x.a x.b x.c else if x.k = 4 then whole_less x.a x.b x.c else if x.k = 5 then whole_plus x.a x.b x.c else if x.k = 6 then whole_exit x.a x.b x.c else false
theorem GoF.yes {lo hi : Nat} {x : Gl} {W : World} {v : Value} (h : GoF lo hi x W v) (hw : wholeG x = true) : ∃ T u, v = .iface T u := by
  unfold wholeG at hw
  rcases h with ⟨e, h⟩ | ⟨e, h⟩ | ⟨e, h⟩ | ⟨e, h⟩ | ⟨e, h⟩ | ⟨e, h⟩ | ⟨e, h⟩
  · simp only [e] at hw
    simp at hw
    rcases h with ⟨h1, p, rfl, Ta⟩ | ⟨h1, rfl⟩
    · exact ⟨_, _, rfl⟩
    · rw [hw] at h1; cases h1
  · simp only [e] at hw
    simp at hw
    rcases h with ⟨h1, p, q, rfl, Ta, Tb⟩ | ⟨h1, rfl⟩
    · exact ⟨_, _, rfl⟩
    · rw [hw] at h1; cases h1
  · simp only [e] at hw
    simp at hw
    rcases h with ⟨h1, rfl⟩ | ⟨h1, rfl⟩
    · exact ⟨_, _, rfl⟩
    · rw [hw] at h1; cases h1
  · simp only [e] at hw
    simp at hw
    rcases h with ⟨h1, p, q, rfl, Ta, Tb⟩ | ⟨h1, rfl⟩
    · exact ⟨_, _, rfl⟩
    · rw [hw] at h1; cases h1
  · simp only [e] at hw
    simp at hw
    rcases h with ⟨h1, p, q, r, rfl, Ta, Tb, Tc⟩ | ⟨h1, rfl⟩
    · exact ⟨_, _, rfl⟩
    · rw [hw] at h1; cases h1
  · simp only [e] at hw
    simp at hw
    rcases h with ⟨h1, p, rfl, Ta⟩ | ⟨h1, rfl⟩
    · exact ⟨_, _, rfl⟩
    · rw [hw] at h1; cases h1
  · rw [if_neg (by omega), if_neg (by omega), if_neg (by omega), if_neg (by omega), if_neg (by omega), if_neg (by omega)] at hw; cases hw
theorem GoF.no {lo hi : Nat} {x : Gl} {W : World} {v : Value} (h : GoF lo hi x W v) (hw : wholeG x = false) : v = .nilIface := by
  unfold wholeG at hw
  rcases h with ⟨e, h⟩ | ⟨e, h⟩ | ⟨e, h⟩ | ⟨e, h⟩ | ⟨e, h⟩ | ⟨e, h⟩ | ⟨e, h⟩
  · simp only [e] at hw
    simp at hw
    rcases h with ⟨h1, p, rfl, Ta⟩ | ⟨h1, rfl⟩
    · rw [hw] at h1; cases h1
    · rfl
  · simp only [e] at hw
    simp at hw
    rcases h with ⟨h1, p, q, rfl, Ta, Tb⟩ | ⟨h1, rfl⟩
    · rw [hw] at h1; cases h1
    · rfl
  · simp only [e] at hw
    simp at hw
    rcases h with ⟨h1, rfl⟩ | ⟨h1, rfl⟩
    · rw [hw] at h1; cases h1
    · rfl
  · simp only [e] at hw
    simp at hw
    rcases h with ⟨h1, p, q, rfl, Ta, Tb⟩ | ⟨h1, rfl⟩
    · rw [hw] at h1; cases h1
    · rfl
  · simp only [e] at hw
    simp at hw
    rcases h with ⟨h1, p, q, r, rfl, Ta, Tb, Tc⟩ | ⟨h1, rfl⟩
    · rw [hw] at h1; cases h1
    · rfl
  · simp only [e] at hw
    simp at hw
    rcases h with ⟨h1, p, rfl, Ta⟩ | ⟨h1, rfl⟩
    · rw [hw] at h1; cases h1
    · rfl
  · exact h
end Go.Proofs.Ytkedckmpjedjoaa

/- A clause of the program that is checked. -/
namespace Go.Proofs.Ytkedckmpjedjoaa
open Go.RowKit Go.Shelf
set_option linter.unusedVariables false
set_option linter.unusedSimpArgs false

set_option maxRecDepth 100000 in
set_option maxHeartbeats 1000000 in
theorem mayStand_callnil (w : World) : Calls Try.prog 169 #[.iface 222 (.agg #[ptrV none])] w fun e w' => e = .returned (.bool false) ∧ Below w.heap.size w w' := by
  have h0 := nil_call
  have te := ta_call_exit
  have HGW := hide (goalWhole_call none w 0 (fun p' e => by cases e))
  simp only [List.mem_cons, List.mem_nil_iff, or_false, reduceCtorEq, decide_true, decide_false, Bool.not_false, Bool.not_true, Bool.true_and, Bool.and_false, Bool.false_and] at HGW
  go_enter Try.func169, Try.ntmps169
  go_wp2_with (go_at_call 168; refine (unhide HGW).mono ?_; rintro e w1 ⟨rfl, hb1⟩)
  go_ret
  exact ⟨rfl, hb1⟩
theorem mayStand_head {lo : Nat} {W : World} {o : Option Nat} {t : List C} (h : Lk lo W o t) :
    Calls Try.prog 169 #[.iface 222 (.agg #[ptrV o])] W fun e w' => e = .returned (.bool (l3T t && callT t)) ∧ Below W.heap.size W w' := by
  rcases h with ⟨ht, p, rfl, hT⟩ | ⟨ht, rfl⟩
  · have he : (l3T t && callT t) = (callT t && fitT t) := by rw [l3T_fit, ht, Bool.true_and, Bool.and_comm]
    rw [he]
    exact mayStand_call p t W (hT.isIn (Nat.le_refl _))
  · have he : (l3T t && callT t) = false := by rw [l3T_fit, ht]; rfl
    rw [he]
    exact mayStand_callnil W

/-- A clause of the program, while a call lasts: what it was made of. -/
structure ClM (lo : Nat) (W : World) (P : Nat) (x : Cl) (o : Option Nat) (ao : Option Addr) (cap : Nat) : Prop where
  c0 : W.cell? ⟨P, 0, none⟩ = some (ptrV o)
  c1 : W.cell? ⟨P, 1, none⟩ = some (.slice ao x.g.length cap)
  hd : Lk lo W o x.h
  bd : x.g = [] ∨ ∃ b, ao = some ⟨b, 0, none⟩ ∧ ∀ i, (h : i < x.g.length) → ∃ v lo hi, W.cell? ⟨b, i, none⟩ = some v ∧ hi ≤ W.heap.size ∧ GoF lo hi x.g[i] W v
theorem ClM.below {lo : Nat} {W W' : World} {P : Nat} {x : Cl} {o : Option Nat} {ao : Option Addr} {cap : Nat} (h : ClM lo W P x o ao cap) (hb : Below W.heap.size W W') : ClM lo W' P x o ao cap := by
  refine ⟨(hb.cell (p := ⟨P, 0, none⟩) (World.block_lt_of_cell? W _ h.c0)).trans h.c0, (hb.cell (p := ⟨P, 1, none⟩) (World.block_lt_of_cell? W _ h.c1)).trans h.c1, h.hd.below hb, ?_⟩
  rcases h.bd with h | ⟨b, e, h⟩
  · exact .inl h
  · refine .inr ⟨b, e, fun i hi => ?_⟩
    obtain ⟨v, l, r, h1, hh, h2⟩ := h i hi
    exact ⟨v, l, r, (hb.cell (p := ⟨b, i, none⟩) (World.block_lt_of_cell? W _ h1)).trans h1, Nat.le_trans hh hb.size, h2.below hh hb⟩

/-- The clause, if it may stand in a program; else nil. -/
def ckV (x : Cl) (P : Nat) : Value := if clB x = true then .pointer (some ⟨P, 0, none⟩) else .pointer none

set_option maxRecDepth 100000 in
set_option maxHeartbeats 2000000 in
theorem checked_any (lo P : Nat) (x : Cl) (o : Option Nat) (ao : Option Addr) (cap : Nat) (w : World) (hg : x.g.length ≤ 4) (h : ClM lo w P x o ao cap) :
    Calls Try.prog 147 #[.pointer (some ⟨P, 0, none⟩)] w fun e w' => e = .returned (ckV x P) ∧ Below w.heap.size w w' := by
  have HE : Hid (clB x = ((l3T x.h && callT x.h) && x.g.all (fun g => goalB g.k g.a g.b g.c))) := by show _ = _; simp [clB, hg]
  have HH := hide (mayStand_head h.hd)
  have hc0 := h.c0
  have hc1 := h.c1
  have HCM := hide h
  clear h
  obtain ⟨a, ea⟩ : ∃ a, a = (l3T x.h && callT x.h) := ⟨_, rfl⟩
  rw [← ea] at HH HE
  clear ea
  unfold ptrV at hc0 HH
  cases a with
  | false =>
    go_enter Try.func147, Try.ntmps147
    go_wp2_with (go_at_call 169; refine (unhide HH).mono ?_; rintro e w1 ⟨rfl, hb1⟩)
    go_ret
    exact ⟨by unfold ckV; rw [unhide HE]; rfl, hb1⟩
  | true =>
    have hP : P < w.heap.size := World.block_lt_of_cell? w ⟨_, _, none⟩ hc1
    go_enter Try.func147, Try.ntmps147
    go_wp2_with (go_at_call 169; refine (unhide HH).mono ?_; rintro e w1 ⟨rfl, hb1⟩; have d1 := (hb1.cell (p := ⟨P, 1, none⟩) hP).trans hc1)
    have HC1 := hide ((unhide HCM).below hb1)
    clear HCM hc0 hc1 HH
    go_loopw [18] (fun i wr => ∃ (k : Nat), k ≤ x.g.length ∧ i = .int .i64 k ∧ GoodUp x.g k ∧ Below w1.heap.size w1 wr) (fun i _ => x.g.length - (intOf i).toNat)
    case atStart => exact ⟨0, Nat.zero_le _, rfl, fun j _ h => absurd h (Nat.not_lt_zero _), Below.refl _ _⟩
    case round =>
      obtain ⟨k, hk, rfl, hgu, hBr⟩ := hrel
      have HGU := hide hgu
      clear hgu
      have hBw := bstep hb1 hBr
      by_cases hlt : k < x.g.length
      · have hC := (unhide HC1).below hBr
        rcases hC.bd with e | ⟨b, e, hb⟩
        · rw [e] at hlt; simp at hlt
        subst e
        obtain ⟨v, l, r, m0, hhi, hG⟩ := hb k hlt
        have HM := hide (mayStand_gof hhi hG)
        have HNO := hide (goodUp_no hlt)
        have HSU := hide (goodUp_succ (unhide HGU) hlt)
        clear hb hC
        cases hgo : goalB x.g[k].k x.g[k].a x.g[k].b x.g[k].c with
        | false =>
          rw [hgo] at HM
          have HN := hide (unhide HNO hgo)
          clear HNO HSU hgo
          rcases hG.one with ⟨T, u, rfl⟩ | rfl
          · clear hG
            go_wp2_with (go_at_call 169; refine (unhide HM).mono ?_; rintro e w3 ⟨rfl, hb3⟩)
            go_ret
            exact ⟨by unfold ckV; rw [unhide HE, unhide HN]; rfl, bstep hBw hb3⟩
          · clear hG
            go_wp2_with (go_at_call 169; refine (unhide HM).mono ?_; rintro e w3 ⟨rfl, hb3⟩)
            go_ret
            exact ⟨by unfold ckV; rw [unhide HE, unhide HN]; rfl, bstep hBw hb3⟩
        | true =>
          rw [hgo] at HM
          have HS := hide (unhide HSU hgo)
          clear HNO HSU hgo
          rcases hG.one with ⟨T, u, rfl⟩ | rfl
          · clear hG
            go_wp2_with (go_at_call 169; refine (unhide HM).mono ?_; rintro e w3 ⟨rfl, hb3⟩)
            go_roundw
            case rel => exact ⟨k + 1, by omega, by go_num, unhide HS, bstep hBr hb3⟩
            case measure => simp [intOf]; omega
          · clear hG
            go_wp2_with (go_at_call 169; refine (unhide HM).mono ?_; rintro e w3 ⟨rfl, hb3⟩)
            go_roundw
            case rel => exact ⟨k + 1, by omega, by go_num, unhide HS, bstep hBr hb3⟩
            case measure => simp [intOf]; omega
      · have e : k = x.g.length := by omega
        subst e
        go_wp2
        go_ret
        exact ⟨by unfold ckV; rw [unhide HE, goodUp_all (unhide HGU)]; rfl, hBw⟩
end Go.Proofs.Ytkedckmpjedjoaa

/- A clause of the program that is being made: what stays, and one goal more. -/
namespace Go.Proofs.Ytkedckmpjedjoaa
open Go.RowKit Go.Shelf
set_option linter.unusedVariables false
set_option linter.unusedSimpArgs false

def LkP (lo hi : Nat) (W : World) (o : Option Nat) (t : List C) : Prop := (trm t = true ∧ ∃ p, o = some p ∧ TreL lo hi W p t) ∨ (trm t = false ∧ o = none)
theorem LkP.kept {lo hi : Nat} {W W' : World} {o : Option Nat} {t : List C} (h : LkP lo hi W o t) (hk : ∀ b, lo ≤ b → b < hi → W'.heap[b]? = W.heap[b]?) : LkP lo hi W' o t :=
  h.imp_left fun ⟨h1, p, e, h2⟩ => ⟨h1, p, e, h2.kept (Nat.le_refl _) (Nat.le_refl _) hk⟩
theorem LkP.lk {lo hi : Nat} {W : World} {o : Option Nat} {t : List C} (h : LkP lo hi W o t) (hh : hi ≤ W.heap.size) : Lk lo W o t :=
  h.imp_left fun ⟨h1, p, e, h2⟩ => ⟨h1, p, e, h2.kept (Nat.le_refl _) hh (fun _ _ _ => rfl)⟩

/-- A clause that is being made: so many goals are in it. -/
def ClK (x : Cl) (o : Option Nat) (w : World) (P k : Nat) (wr : World) (bv : Value) : Prop :=
  ∃ vs, wr.heap[P]? = some (.cells #[ptrV o, bv] 210 (0, 0)) ∧ wr.ownsRow (P + 1) 212 1 bv k vs ∧
    (∀ i, (h : i < x.g.length) → i < k → ∃ v lo hi, vs[i]? = some v ∧ P < lo ∧ hi ≤ wr.heap.size ∧ (∀ g, bv.ownBlock = some g → g < lo ∨ hi ≤ g) ∧ GoF lo hi x.g[i] wr v) ∧ LkP w.heap.size P wr o x.h ∧ w.heap.size ≤ P ∧ Below w.heap.size w wr
theorem clause_cells {w : World} {B : Nat} {a b : Value} (h : w.heap[B]? = some (.cells #[a, b] 210 (0, 0))) :
    w.cell? ⟨B, 0, none⟩ = some a ∧ w.cell? ⟨B, 1, none⟩ = some b ∧ w.frozen? ⟨B, 0, none⟩ = false ∧ w.frozen? ⟨B, 1, none⟩ = false := by
  simp [World.cell?, World.frozen?, h]
theorem clK_step {x : Cl} {o : Option Nat} {w wr w2 w3 : World} {P k g' cap' lo hi : Nat} {bv v : Value} {vs : List Value} {ob : Obj} (hk : k < x.g.length)
    (h1 : wr.heap[P]? = some (.cells #[ptrV o, bv] 210 (0, 0))) (h2 : wr.ownsRow (P + 1) 212 1 bv k vs)
    (h3 : ∀ i, (h : i < x.g.length) → i < k → ∃ v lo hi, vs[i]? = some v ∧ P < lo ∧ hi ≤ wr.heap.size ∧ (∀ g, bv.ownBlock = some g → g < lo ∨ hi ≤ g) ∧ GoF lo hi x.g[i] wr v) (h4 : LkP w.heap.size P wr o x.h) (h5 : w.heap.size ≤ P) (h6 : Below w.heap.size w wr)
    (hb : Below wr.heap.size wr w2) (hlo : wr.heap.size ≤ lo) (hhi : hi ≤ w2.heap.size) (hG : GoF lo hi x.g[k] w2 v)
    (hown : w3.ownsRow (P + 1) 212 1 (.slice (some ⟨g', 0, none⟩) (k + 1) cap') (k + 1) (vs ++ [v])) (hgrow : (w2.alloc ob).grownBy w3 bv.ownBlock) (hat : bv.ownBlock = some g' ∨ g' = (w2.alloc ob).heap.size) :
    ClK x o w P (k + 1) (w3.setCell ⟨P, 1, none⟩ (.slice (some ⟨g', 0, none⟩) (k + 1) cap')) (.slice (some ⟨g', 0, none⟩) (k + 1) cap') := by
  have hP : P < wr.heap.size := (Array.getElem?_eq_some_iff.1 h1).1
  have hsa : (w2.alloc ob).heap.size = w2.heap.size + 1 := by simp
  have hs2 := hb.size
  have hs3 := hgrow.size
  have hbv : ∀ g, bv.ownBlock = some g → P < g ∧ g < wr.heap.size := fun g e => by have := h2.lt g e; omega
  have hg : P < g' := by
    rcases hat with h | h
    · exact (hbv g' h).1
    · omega
  have hvl : vs.length = k := by have := h2.1; omega
  -- a block below w2's end, neither the row nor the clause, is as it was
  have key : ∀ b, b < w2.heap.size → bv.ownBlock ≠ some b → b ≠ P → (w3.setCell ⟨P, 1, none⟩ (.slice (some ⟨g', 0, none⟩) (k + 1) cap')).heap[b]? = w2.heap[b]? := fun b hb1 hb2 hb3 => by
    rw [Below.heap_setCell _ _ _ _ hb3, hgrow.block b (by omega) (fun e => hb2 e.symm)]
    exact Below.heap_alloc _ _ _ hb1
  have hszE : (w3.setCell ⟨P, 1, none⟩ (.slice (some ⟨g', 0, none⟩) (k + 1) cap')).heap.size = w3.heap.size := by simp [World.setCell]
  refine ⟨vs ++ [v], ?_, own_block hown (fun j e => Below.heap_setCell _ _ _ _ ?_), fun i hi hik => ?_, h4.kept (fun b hb1 hb2 => ?_), h5, ?_⟩
  · have hP3 : w3.heap[P]? = some (.cells #[ptrV o, bv] 210 (0, 0)) := by
      rw [hgrow.block P (by omega) (fun e => by have := (hbv P e.symm).1; omega), Below.heap_alloc _ _ _ (by omega), hb.block P hP]
      exact h1
    obtain ⟨hlt, hk'⟩ := Array.getElem?_eq_some_iff.1 hP3
    show (w3.heap.modify P _)[P]? = _
    rw [Array.getElem?_eq_getElem (by rw [Array.size_modify]; exact hlt), Array.getElem_modify_self, hk']
    rfl
  · have : g' = j := by simpa [Value.ownBlock] using e
    show j ≠ P
    omega
  · by_cases e : i < k
    · obtain ⟨u, l, r, q1, q2, q3, q4, q5⟩ := h3 i hi e
      refine ⟨u, l, r, ?_, q2, by omega, fun g eg => ?_, q5.kept (fun b hb1 hb2 => ?_)⟩
      · rw [List.getElem?_append_left (by omega)]; exact q1
      · have : g' = g := by simpa [Value.ownBlock] using eg
        subst this
        rcases hat with h | h
        · exact q4 _ h
        · right; omega
      · rw [key b (by omega) (fun e => by rcases q4 b e with h | h <;> omega) (by omega)]
        exact hb.block b (by omega)
    · obtain rfl : i = k := by omega
      refine ⟨v, lo, _, ?_, by omega, ?_, fun g eg => ?_, hG.kept (fun b hb1 hb2 => key b (by omega) (fun e => by have := (hbv b e).2; omega) (by omega))⟩
      · rw [List.getElem?_append_right (by omega), hvl]; simp
      · omega
      · have : g' = g := by simpa [Value.ownBlock] using eg
        subst this
        rcases hat with h | h
        · left; have := (hbv _ h).2; omega
        · right; omega
  · rw [key b (by omega) (fun e => by have := (hbv b e).1; omega) (by omega)]
    exact hb.block b (by omega)
  · have hB2 : Below w.heap.size w w2 := h6.trans (hb.mono (by omega))
    exact ((hB2.alloc (by omega) ob).grown hgrow (by omega) (fun j e => by have := (hbv j e).1; omega)).setCell (p := ⟨P, 1, none⟩) (by show w.heap.size ≤ P; exact h5) _
theorem clK_end {x : Cl} {o : Option Nat} {w wr : World} {P : Nat} {bv : Value} (h : ClK x o w P x.g.length wr bv) : ∃ ao cap, bv = .slice ao x.g.length cap ∧ ClM w.heap.size wr P x o ao cap := by
  obtain ⟨vs, h1, h2, h3, h4, h5, h6⟩ := h
  have hP : P < wr.heap.size := (Array.getElem?_eq_some_iff.1 h1).1
  obtain ⟨c0, c1, _, _⟩ := clause_cells h1
  rcases h2.2 with ⟨e, hn⟩ | ⟨g, cap, cur, e, _⟩
  · refine ⟨none, 0, by rw [e, hn], c0, by rw [c1, e, hn], h4.lk (by omega), .inl (List.length_eq_zero_iff.1 hn)⟩
  · refine ⟨some ⟨g, 0, none⟩, cap, e, c0, by rw [c1, e], h4.lk (by omega), .inr ⟨g, rfl, fun i hi => ?_⟩⟩
    obtain ⟨v, l, r, q1, q2, q3, q4, q5⟩ := h3 i hi hi
    subst e
    have := h2.cellAt i (by have := h2.1; omega)
    exact ⟨v, l, r, this.trans q1, q3, q5⟩
end Go.Proofs.Ytkedckmpjedjoaa
