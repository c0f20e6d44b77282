/- Goals: when one may stand in a clause; the walks of the model's l3Term, l3Call and GoalOk. -/
import Derived.Test.YtpfoaleehdiahaaQW4
import Derived.Test.YtpfoaleehdiahaaQPlain2T4
namespace Go.Proofs.Ytpfoaleehdiahaa
open Go.RowKit
set_option linter.unusedVariables false
set_option linter.unusedSimpArgs false

/-- A place has a variable that clauses have not. -/
def farC (c : C) : Bool := decide (c.k = 1) && decide (8 ≤ c.n)
/-- A term may stand in a clause. -/
def l3T (t : List C) : Bool := trm t && decide (t.length ≤ 12) && !(t.any farC)
/-- A term may be called. -/
def callT : List C → Bool
  | [] => false
  | c :: _ => decide (c.k = 3)
/-- A goal may stand in a clause. -/
def goalB (k : Int) (a b c : List C) : Bool :=
  if k = 1 then l3T a && callT a && decide (b.length + c.length = 0)
  else if k = 3 then decide (a.length + b.length + c.length = 0)
  else if k = 2 ∨ k = 4 then l3T a && l3T b && decide (c.length = 0)
  else if k = 5 then l3T a && l3T b && l3T c
  else false

theorem l3T_iff (t : List C) : l3T t = true ↔ trm t = true ∧ t.length ≤ 12 ∧ ∀ c ∈ t, farC c = false := by
  unfold l3T
  simp only [Bool.and_eq_true, decide_eq_true_eq, Bool.not_eq_true', List.any_eq_false, Bool.not_eq_true, and_assoc]

set_option maxRecDepth 100000 in
set_option maxHeartbeats 1000000 in
theorem l3Term_some (b off cap : Nat) (t : List C) (w : World) (hm : t.length ≤ maxLen) (hA : At w b off t) (hF : Fit t) :
    Calls Try.prog 133 #[.slice (some ⟨b, off, none⟩) t.length cap] w fun e w' => e = .returned (.bool (l3T t)) ∧ Below w.heap.size w w' := by
  have H := hide (specTrmOk_any (some ⟨b, off, none⟩) cap t w hm (.inr ⟨b, off, rfl, hA⟩) hF)
  have HL := hide (l3T_iff t)
  unfold maxLen at hm
  cases hy : trm t with
  | false =>
    rw [hy] at H
    have HN : Hid (l3T t = false) := by
      cases e : l3T t with
      | false => rfl
      | true => have := (unhide HL).1 e; rw [hy] at this; cases this.1
    clear hy
    go_enter Try.func133, Try.ntmps133
    go_wp2_with fail
    refine (unhide H).mono ?_
    rintro e w1 ⟨rfl, hb1⟩
    go_wp2
    go_ret
    exact ⟨ret_bool (unhide HN).symm, hb1⟩
  | true =>
    rw [hy] at H
    have hl := trm_len hy
    have HY := hide hy
    clear hy
    go_enter Try.func133, Try.ntmps133
    go_wp2_with fail
    refine (unhide H).mono ?_
    clear H
    rintro e w1 ⟨rfl, hb1⟩
    by_cases h12 : t.length ≤ 12
    · go_wp2
      go_loopw [3] (fun i wr => ∃ (k : Nat), k ≤ t.length ∧ i = .int .i64 k ∧ (∀ j, (h : j < t.length) → j < k → farC t[j] = false) ∧ Below w.heap.size w wr) (fun i _ => t.length - (intOf i).toNat)
      case atStart => exact ⟨0, Nat.zero_le _, rfl, fun j _ h => absurd h (Nat.not_lt_zero _), hb1⟩
      case round =>
        obtain ⟨k, hk, rfl, hg, hB⟩ := hrel
        have HG := hide hg
        clear hg
        by_cases hlt : k < t.length
        · obtain ⟨c0, c1, c2⟩ := (hA.below hB) k hlt
          have HN : Hid (farC t[k] = true → l3T t = false) := fun hf => by
            cases e : l3T t with
            | false => rfl
            | true => have := ((unhide HL).1 e).2.2 t[k] (List.getElem_mem hlt); rw [hf] at this; cases this
          have HST : Hid (farC t[k] = false → ∀ j, (h : j < t.length) → j < k + 1 → farC t[j] = false) := fun hf j hj hjk => by
            by_cases e : j = k
            · subst e; exact hf
            · exact unhide HG j hj (by omega)
          generalize t[k] = c at c0 c1 c2 HN HST
          by_cases h1 : c.k = 1
          · have h1b : (c.k == 1) = true := by simpa using h1
            by_cases h8 : 8 ≤ c.n
            · have HE := hide (unhide HN (by simp [farC, h1, h8]))
              clear h1
              go_wp2
              go_ret
              exact ⟨ret_bool (unhide HE).symm, hB⟩
            · have HE := hide (unhide HST (by simp [farC, h8]))
              clear h1
              go_wp2
              go_roundw
              case rel => exact ⟨k + 1, by omega, by go_num, unhide HE, hB⟩
              case measure => simp [intOf]; omega
          · have h1b : (c.k == 1) = false := by simpa using h1
            have HE := hide (unhide HST (by simp [farC, h1]))
            clear h1
            go_wp2
            go_roundw
            case rel => exact ⟨k + 1, by omega, by go_num, unhide HE, hB⟩
            case measure => simp [intOf]; omega
        · have HE : Hid (l3T t = true) := (unhide HL).2 ⟨unhide HY, h12, fun c hc => by
            obtain ⟨j, hj, rfl⟩ := List.getElem_of_mem hc
            exact unhide HG j hj (by omega)⟩
          go_wp2
          go_ret
          exact ⟨ret_bool (unhide HE).symm, hB⟩
    · have HN : Hid (l3T t = false) := by
        cases e : l3T t with
        | false => rfl
        | true => exact absurd ((unhide HL).1 e).2.1 h12
      go_wp2
      go_ret
      exact ⟨ret_bool (unhide HN).symm, hb1⟩

theorem l3Term_any (ao : Option Addr) (cap : Nat) (t : List C) (w : World) (hm : t.length ≤ maxLen) (hA : Row w ao t) (hF : Fit t) :
    Calls Try.prog 133 #[.slice ao t.length cap] w fun e w' => e = .returned (.bool (l3T t)) ∧ Below w.heap.size w w' := by
  rcases hA with rfl | ⟨b, off, rfl, hA⟩
  · have H := hide (specTrmOk_any ao cap [] w (by simp) (.inl rfl) (fun c hc => by simp at hc))
    rw [trm_nil] at H
    go_enter Try.func133, Try.ntmps133
    simp only [List.length_nil] at H ⊢
    go_wp2_with fail
    refine (unhide H).mono ?_
    rintro e w1 ⟨rfl, hb1⟩
    go_wp2
    go_ret
    exact ⟨ret_bool (by simp [l3T, trm_nil]), hb1⟩
  · exact l3Term_some b off cap t w hm hA hF

set_option maxHeartbeats 400000 in
theorem l3Call_any (ao : Option Addr) (cap : Nat) (t : List C) (w : World) (hm : t.length ≤ maxLen) (hA : Row w ao t) :
    Calls Try.prog 44 #[.slice ao t.length cap] w fun e w' => e = .returned (.bool (callT t)) ∧ w' = w := by
  unfold maxLen at hm
  rcases hA with rfl | ⟨b, off, rfl, hA⟩
  · go_enter Try.func44, Try.ntmps44
    try simp only [List.length_nil]
    go_wp2
    go_ret
    exact ⟨ret_bool rfl, rfl⟩
  · cases t with
    | nil =>
      go_enter Try.func44, Try.ntmps44
      try simp only [List.length_nil]
      go_wp2
      go_ret
      exact ⟨ret_bool rfl, rfl⟩
    | cons c r =>
      obtain ⟨c0, c1, c2⟩ := hA 0 (by simp)
      simp only [List.getElem_cons_zero, Nat.zero_mul, Nat.add_zero] at c0
      simp only [List.length_cons] at hm ⊢
      have hp : 0 < r.length + 1 := by omega
      by_cases h3 : c.k = 3
      · have h3b : (c.k == 3) = true := by simpa using h3
        have HE : Hid (callT (c :: r) = true) := by simp [Hid, callT, h3]
        clear h3 hA
        go_enter Try.func44, Try.ntmps44
        go_wp2
        go_ret
        exact ⟨ret_bool (unhide HE).symm, rfl⟩
      · have h3b : (c.k == 3) = false := by simpa using h3
        have HE : Hid (callT (c :: r) = false) := by simp [Hid, callT, h3]
        clear h3 hA
        go_enter Try.func44, Try.ntmps44
        go_wp2
        go_ret
        exact ⟨ret_bool (unhide HE).symm, rfl⟩
end Go.Proofs.Ytpfoaleehdiahaa
