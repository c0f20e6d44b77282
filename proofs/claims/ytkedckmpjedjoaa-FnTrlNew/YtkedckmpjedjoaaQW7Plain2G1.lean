import Derived.Test.YtkedckmpjedjoaaQW3W4W6
import Derived.Laws.StructEq
import Derived.Deep.QuietTactic
import Derived.BigQuiet
import Derived.WalkSmall
import Derived.Test.YtkedckmpjedjoaaQPlainMemOpen
/- The walks of TrmSame, of the model and of the program (slices.Equal). -/
namespace Go.Proofs.Ytkedckmpjedjoaa
open Go.RowKit
set_option linter.unusedVariables false
set_option linter.unusedSimpArgs false

theorem Try.heldCell : Try.prog.stoodInHeld 98 = false := by kernel_rfl
theorem Try.fieldsCell : Try.prog.underlying 98 = some (.struct (Try.prog.fieldsOf 98)) := by kernel_rfl
theorem Try.guardCell : Try.prog.eqGuardType Try.prog.depth 98 = false := by kernel_rfl

theorem neq_cell (c d : C) (w : World) : (binOp .neq 98 (.agg #[.int .i64 c.k, .int .i64 c.n, .string c.s]) (.agg #[.int .i64 d.k, .int .i64 d.n, .string d.s])).run Try.prog w = .ok (.bool (!same c d)) w := by
  rw [run_neq_struct, run_equalIn_agg w 9999 98 _ _ Try.fieldsCell Try.heldCell]
  by_cases h1 : c.k = d.k
  · by_cases h2 : c.n = d.n
    · simp [Program.fieldsOf, Try.underlying98, Op.eqFields, go_sem, same, h1, h2, ByteArray.toList_eq]
      by_cases h3 : c.s.data = d.s.data
      · simp [h3]
      · simp [h3]
    · simp [Program.fieldsOf, Try.underlying98, Op.eqFields, go_sem, same, h1, h2]
  · simp [Program.fieldsOf, Try.underlying98, Op.eqFields, go_sem, same, h1]

set_option maxHeartbeats 1000000 in
theorem specTrmSame_some (b off cap b' off' cap' : Nat) (t u : List C) (w : World) (hm : t.length ≤ maxLen) (hA : At w b off t) (hU : At w b' off' u) (hl : t.length = u.length) :
    Calls Try.prog 114 #[.slice (some ⟨b, off, none⟩) t.length cap, .slice (some ⟨b', off', none⟩) u.length cap'] w fun e w' => e = .returned (.bool (sameS t u)) ∧ Below w.heap.size w w' := by
  unfold maxLen at hm
  have hne : ((t.length : Int) != (u.length : Int)) = false := by simp; omega
  have hul : u.length ≤ 2 ^ 63 - 1 := by omega
  have HL := hide hl
  clear hl
  go_enter Try.func114, Try.ntmps114
  go_wp2
  go_loopw [5] (fun i wr => ∃ (k : Nat), k ≤ t.length ∧ i = .int .i64 k ∧ t.take k = u.take k ∧ Below w.heap.size w wr) (fun i _ => t.length - (intOf i).toNat)
  case atStart => exact ⟨0, Nat.zero_le _, rfl, rfl, Below.refl _ _⟩
  case round =>
    obtain ⟨k, hk, rfl, hx, hB⟩ := hrel
    have HX := hide hx
    clear hx
    by_cases hlt : k < t.length
    · have hlu : k < u.length := by rw [← unhide HL]; exact hlt
      obtain ⟨c0, c1, c2⟩ := (hA.below hB) k hlt
      obtain ⟨d0, d1, d2⟩ := (hU.below hB) k hlu
      obtain ⟨c, hc⟩ : ∃ c, c = t[k] := ⟨_, rfl⟩
      rw [← hc] at c0 c1 c2
      have HC := hide hc
      clear hc
      obtain ⟨d, hd⟩ : ∃ d, d = u[k] := ⟨_, rfl⟩
      rw [← hd] at d0 d1 d2
      have HD := hide hd
      clear hd
      have hneq := neq_cell c d
      cases hsm : same c d with
      | false =>
        rw [hsm] at hneq
        go_wp2
        go_quiet (fail)
        go_wp2
        go_ret
        refine ⟨ret_bool (sameS_no (fun h => ?_)).symm, ?_⟩
        · have e : c = d := by rw [unhide HC, unhide HD]; simp [h]
          rw [(same_iff c d).2 e] at hsm; cases hsm
        · exact below_drewN hB _
      | true =>
        rw [hsm] at hneq
        go_wp2
        go_quiet (fail)
        go_wp2
        go_roundw
        case rel => exact ⟨k + 1, by omega, by go_num, by rw [List.take_succ_eq_append_getElem hlt, List.take_succ_eq_append_getElem hlu, unhide HX, ← unhide HC, ← unhide HD, (same_iff c d).1 hsm], below_drewN hB _⟩
        case measure => simp [intOf]; omega
    · go_wp2
      go_ret
      refine ⟨ret_bool (sameS_yes ?_).symm, hB⟩
      have := unhide HX
      rw [List.take_of_length_le (by omega), List.take_of_length_le (by rw [← unhide HL]; omega)] at this
      exact this

set_option maxHeartbeats 400000 in
theorem specTrmSame_far (ao bo : Option Addr) (n m cap cap' : Nat) (w : World) (hl : n ≠ m) :
    Calls Try.prog 114 #[.slice ao n cap, .slice bo m cap'] w fun e w' => e = .returned (.bool false) ∧ Below w.heap.size w w' := by
  have hne : ((n : Int) != (m : Int)) = true := by rw [bne_iff_ne]; omega
  go_enter Try.func114, Try.ntmps114
  go_wp2
  go_ret
  exact ⟨rfl, Below.refl _ _⟩

set_option maxHeartbeats 400000 in
theorem specTrmSame_none (ao bo : Option Addr) (cap cap' : Nat) (w : World) :
    Calls Try.prog 114 #[.slice ao 0 cap, .slice bo 0 cap'] w fun e w' => e = .returned (.bool true) ∧ Below w.heap.size w w' := by
  go_enter Try.func114, Try.ntmps114
  go_wp2
  refine wp_loop_rounds 1 ?_
  rw [rounds_succ]
  go_wp2
  go_ret
  exact ⟨rfl, Below.refl _ _⟩

theorem specTrmSame_any (ao bo : Option Addr) (cap cap' : Nat) (t u : List C) (w : World) (hm : t.length ≤ maxLen) (hA : Row w ao t) (hU : Row w bo u) :
    Calls Try.prog 114 #[.slice ao t.length cap, .slice bo u.length cap'] w fun e w' => e = .returned (.bool (sameS t u)) ∧ Below w.heap.size w w' := by
  by_cases hl : t.length = u.length
  · rcases hA with rfl | ⟨b, off, rfl, hA⟩
    · have hu : u = [] := List.length_eq_zero_iff.1 hl.symm
      subst hu
      exact specTrmSame_none ao bo cap cap' w
    · rcases hU with rfl | ⟨b', off', rfl, hU⟩
      · have ht : t = [] := List.length_eq_zero_iff.1 hl
        subst ht
        exact specTrmSame_none _ bo cap cap' w
      · exact specTrmSame_some b off cap b' off' cap' t u w hm hA hU hl
  · rw [sameS_no (fun h => hl (by rw [h]))]
    exact specTrmSame_far ao bo _ _ cap cap' w hl

set_option maxHeartbeats 1000000 in
theorem slicesEqual_some (b off cap b' off' cap' : Nat) (t u : List C) (w : World) (hm : t.length ≤ maxLen) (hA : At w b off t) (hU : At w b' off' u) (hl : t.length = u.length) :
    Calls Try.prog 154 #[.slice (some ⟨b, off, none⟩) t.length cap, .slice (some ⟨b', off', none⟩) u.length cap'] w fun e w' => e = .returned (.bool (sameS t u)) ∧ Below w.heap.size w w' := by
  unfold maxLen at hm
  have hne : ((t.length : Int) != (u.length : Int)) = false := by simp; omega
  have hul : u.length ≤ 2 ^ 63 - 1 := by omega
  have HL := hide hl
  clear hl
  go_enter Try.func154, Try.ntmps154
  go_wp2
  go_loopw [5, 13] (fun _ i wr => ∃ (k : Nat), k ≤ t.length ∧ i = .int .i64 k ∧ t.take k = u.take k ∧ Below w.heap.size w wr) (fun _ i _ => t.length - (intOf i).toNat)
  case atStart => exact ⟨0, Nat.zero_le _, rfl, rfl, Below.refl _ _⟩
  case round =>
    obtain ⟨k, hk, rfl, hx, hB⟩ := hrel
    have HX := hide hx
    clear hx
    by_cases hlt : k < t.length
    · have hlu : k < u.length := by rw [← unhide HL]; exact hlt
      obtain ⟨c0, c1, c2⟩ := (hA.below hB) k hlt
      obtain ⟨d0, d1, d2⟩ := (hU.below hB) k hlu
      obtain ⟨c, hc⟩ : ∃ c, c = t[k] := ⟨_, rfl⟩
      rw [← hc] at c0 c1 c2
      have HC := hide hc
      clear hc
      obtain ⟨d, hd⟩ : ∃ d, d = u[k] := ⟨_, rfl⟩
      rw [← hd] at d0 d1 d2
      have HD := hide hd
      clear hd
      have hneq := neq_cell c d
      cases hsm : same c d with
      | false =>
        rw [hsm] at hneq
        go_wp2
        go_quiet (fail)
        go_wp2
        go_ret
        refine ⟨ret_bool (sameS_no (fun h => ?_)).symm, ?_⟩
        · have e : c = d := by rw [unhide HC, unhide HD]; simp [h]
          rw [(same_iff c d).2 e] at hsm; cases hsm
        · exact below_drewN hB _
      | true =>
        rw [hsm] at hneq
        go_wp2
        go_quiet (fail)
        go_wp2
        go_roundw
        case rel => exact ⟨k + 1, by omega, by go_num, by rw [List.take_succ_eq_append_getElem hlt, List.take_succ_eq_append_getElem hlu, unhide HX, ← unhide HC, ← unhide HD, (same_iff c d).1 hsm], below_drewN hB _⟩
        case measure => simp [intOf]; omega
    · go_wp2
      go_ret
      refine ⟨ret_bool (sameS_yes ?_).symm, hB⟩
      have := unhide HX
      rw [List.take_of_length_le (by omega), List.take_of_length_le (by rw [← unhide HL]; omega)] at this
      exact this

set_option maxHeartbeats 400000 in
theorem slicesEqual_far (ao bo : Option Addr) (n m cap cap' : Nat) (w : World) (hl : n ≠ m) :
    Calls Try.prog 154 #[.slice ao n cap, .slice bo m cap'] w fun e w' => e = .returned (.bool false) ∧ Below w.heap.size w w' := by
  have hne : ((n : Int) != (m : Int)) = true := by rw [bne_iff_ne]; omega
  go_enter Try.func154, Try.ntmps154
  go_wp2
  go_ret
  exact ⟨rfl, Below.refl _ _⟩

set_option maxHeartbeats 400000 in
theorem slicesEqual_none (ao bo : Option Addr) (cap cap' : Nat) (w : World) :
    Calls Try.prog 154 #[.slice ao 0 cap, .slice bo 0 cap'] w fun e w' => e = .returned (.bool true) ∧ Below w.heap.size w w' := by
  go_enter Try.func154, Try.ntmps154
  go_wp2
  refine wp_loop_rounds 1 ?_
  rw [rounds_succ]
  go_wp2
  go_ret
  exact ⟨rfl, Below.refl _ _⟩

theorem slicesEqual_any (ao bo : Option Addr) (cap cap' : Nat) (t u : List C) (w : World) (hm : t.length ≤ maxLen) (hA : Row w ao t) (hU : Row w bo u) :
    Calls Try.prog 154 #[.slice ao t.length cap, .slice bo u.length cap'] w fun e w' => e = .returned (.bool (sameS t u)) ∧ Below w.heap.size w w' := by
  by_cases hl : t.length = u.length
  · rcases hA with rfl | ⟨b, off, rfl, hA⟩
    · have hu : u = [] := List.length_eq_zero_iff.1 hl.symm
      subst hu
      exact slicesEqual_none ao bo cap cap' w
    · rcases hU with rfl | ⟨b', off', rfl, hU⟩
      · have ht : t = [] := List.length_eq_zero_iff.1 hl
        subst ht
        exact slicesEqual_none _ bo cap cap' w
      · exact slicesEqual_some b off cap b' off' cap' t u w hm hA hU hl
  · rw [sameS_no (fun h => hl (by rw [h]))]
    exact slicesEqual_far ao bo _ _ cap cap' w hl

set_option maxHeartbeats 400000 in
theorem TrmSame_any (ao bo : Option Addr) (cap cap' : Nat) (t u : List C) (w : World) (hm : t.length ≤ maxLen) (hA : Row w ao t) (hU : Row w bo u) :
    Calls Try.prog 117 #[.slice ao t.length cap, .slice bo u.length cap'] w fun e w' => e = .returned (.bool (sameS t u)) ∧ Below w.heap.size w w' := by
  go_enter Try.func117, Try.ntmps117
  go_wp2_with fail
  refine (slicesEqual_any ao bo cap cap' t u _ hm hA hU).mono ?_
  rintro e w1 ⟨rfl, hb1⟩
  go_wp2
  go_ret
  exact ⟨rfl, hb1⟩
end Go.Proofs.Ytkedckmpjedjoaa

/- The plain mathematics of terms, more: a term's places are just its. -/
namespace Go.Proofs.Ytkedckmpjedjoaa
set_option linter.unusedVariables false
set_option linter.unusedSimpArgs false

theorem ends_append : ∀ (a b : List C) (m : Int) (j : Nat), ends m a = some j → ends m (a ++ b) = some j
  | [], b, m, j, h => by
      simp only [ends] at h
      by_cases hm : m ≤ 0
      · rw [if_pos hm] at h
        cases b <;> simp [ends, hm] <;> simpa using h
      · rw [if_neg hm] at h; cases h
  | c :: a, b, m, j, h => by
      simp only [ends, List.cons_append] at h ⊢
      by_cases hm : m ≤ 0
      · rw [if_pos hm] at h ⊢; exact h
      · rw [if_neg hm] at h ⊢
        cases he : ends (m - 1 + ari c) a with
        | none => rw [he] at h; cases h
        | some i =>
          rw [he] at h
          rw [ends_append a b _ i he]
          exact h

/-- No beginning of a term but all of it is a term. -/
theorem trm_take {t : List C} (h : trm t = true) {k : Nat} (hk : k < t.length) : trm (t.take k) = false := by
  cases e : trm (t.take k) with
  | false => rfl
  | true =>
    exfalso
    have h1 := ((trm_iff t).1 h).2.2.2
    have h2 := ((trm_iff _).1 e).2.2.2
    have h3 := ends_append _ (t.drop k) _ _ h2
    rw [List.take_append_drop, h1] at h3
    simp at h3
    omega

/-- With one place more it is none. -/
theorem trm_more {t : List C} (h : trm t = true) (c : C) : trm (t ++ [c]) = false := by
  cases e : trm (t ++ [c]) with
  | false => rfl
  | true =>
    exfalso
    have h1 := ((trm_iff t).1 h).2.2.2
    have h2 := ((trm_iff _).1 e).2.2.2
    rw [ends_append t [c] _ _ h1] at h2
    simp at h2

theorem trm_len {t : List C} (h : trm t = true) : 1 ≤ t.length ∧ t.length ≤ 40 := ⟨((trm_iff t).1 h).1, ((trm_iff t).1 h).2.1⟩

theorem trm_one : trm [⟨2, 1, ByteArray.mk #[]⟩] = true := by decide
end Go.Proofs.Ytkedckmpjedjoaa

/- Goals: when one may stand in a clause; the walks of the model's l3Term, l3Call and GoalOk. -/
namespace Go.Proofs.Ytkedckmpjedjoaa
open Go.RowKit
set_option linter.unusedVariables false
set_option linter.unusedSimpArgs false

/-- A place has a variable that clauses have not. -/
def farC (c : C) : Bool := decide (c.k = 1) && decide (8 ≤ c.n)
/-- A term may stand in a clause. -/
def l3T (t : List C) : Bool := trm t && decide (t.length ≤ 12) && !(t.any farC)
/-- A term may be called. -/
def callT : List C → Bool
  | [] => false
  | c :: _ => decide (c.k = 3)
/-- A goal may stand in a clause. -/
def goalB (k : Int) (a b c : List C) : Bool :=
  if k = 1 then l3T a && callT a && decide (b.length + c.length = 0)
  else if k = 3 then decide (a.length + b.length + c.length = 0)
  else if k = 2 ∨ k = 4 then l3T a && l3T b && decide (c.length = 0)
  else if k = 5 then l3T a && l3T b && l3T c
  else false

theorem l3T_iff (t : List C) : l3T t = true ↔ trm t = true ∧ t.length ≤ 12 ∧ ∀ c ∈ t, farC c = false := by
  unfold l3T
  simp only [Bool.and_eq_true, decide_eq_true_eq, Bool.not_eq_true', List.any_eq_false, Bool.not_eq_true, and_assoc]

set_option maxRecDepth 100000 in
set_option maxHeartbeats 1000000 in
theorem l3Term_some (b off cap : Nat) (t : List C) (w : World) (hm : t.length ≤ maxLen) (hA : At w b off t) (hF : Fit t) :
    Calls Try.prog 140 #[.slice (some ⟨b, off, none⟩) t.length cap] w fun e w' => e = .returned (.bool (l3T t)) ∧ Below w.heap.size w w' := by
  have H := hide (specTrmOk_any (some ⟨b, off, none⟩) cap t w hm (.inr ⟨b, off, rfl, hA⟩) hF)
  have HL := hide (l3T_iff t)
  unfold maxLen at hm
  cases hy : trm t with
  | false =>
    rw [hy] at H
    have HN : Hid (l3T t = false) := by
      cases e : l3T t with
      | false => rfl
      | true => have := (unhide HL).1 e; rw [hy] at this; cases this.1
    clear hy
    go_enter Try.func140, Try.ntmps140
    go_wp2_with fail
    refine (unhide H).mono ?_
    rintro e w1 ⟨rfl, hb1⟩
    go_wp2
    go_ret
    exact ⟨ret_bool (unhide HN).symm, hb1⟩
  | true =>
    rw [hy] at H
    have hl := trm_len hy
    have HY := hide hy
    clear hy
    go_enter Try.func140, Try.ntmps140
    go_wp2_with fail
    refine (unhide H).mono ?_
    clear H
    rintro e w1 ⟨rfl, hb1⟩
    by_cases h12 : t.length ≤ 12
    · go_wp2
      go_loopw [3] (fun i wr => ∃ (k : Nat), k ≤ t.length ∧ i = .int .i64 k ∧ (∀ j, (h : j < t.length) → j < k → farC t[j] = false) ∧ Below w.heap.size w wr) (fun i _ => t.length - (intOf i).toNat)
      case atStart => exact ⟨0, Nat.zero_le _, rfl, fun j _ h => absurd h (Nat.not_lt_zero _), hb1⟩
      case round =>
        obtain ⟨k, hk, rfl, hg, hB⟩ := hrel
        have HG := hide hg
        clear hg
        by_cases hlt : k < t.length
        · obtain ⟨c0, c1, c2⟩ := (hA.below hB) k hlt
          have HN : Hid (farC t[k] = true → l3T t = false) := fun hf => by
            cases e : l3T t with
            | false => rfl
            | true => have := ((unhide HL).1 e).2.2 t[k] (List.getElem_mem hlt); rw [hf] at this; cases this
          have HST : Hid (farC t[k] = false → ∀ j, (h : j < t.length) → j < k + 1 → farC t[j] = false) := fun hf j hj hjk => by
            by_cases e : j = k
            · subst e; exact hf
            · exact unhide HG j hj (by omega)
          generalize t[k] = c at c0 c1 c2 HN HST
          by_cases h1 : c.k = 1
          · have h1b : (c.k == 1) = true := by simpa using h1
            by_cases h8 : 8 ≤ c.n
            · have HE := hide (unhide HN (by simp [farC, h1, h8]))
              clear h1
              go_wp2
              go_ret
              exact ⟨ret_bool (unhide HE).symm, hB⟩
            · have HE := hide (unhide HST (by simp [farC, h8]))
              clear h1
              go_wp2
              go_roundw
              case rel => exact ⟨k + 1, by omega, by go_num, unhide HE, hB⟩
              case measure => simp [intOf]; omega
          · have h1b : (c.k == 1) = false := by simpa using h1
            have HE := hide (unhide HST (by simp [farC, h1]))
            clear h1
            go_wp2
            go_roundw
            case rel => exact ⟨k + 1, by omega, by go_num, unhide HE, hB⟩
            case measure => simp [intOf]; omega
        · have HE : Hid (l3T t = true) := (unhide HL).2 ⟨unhide HY, h12, fun c hc => by
            obtain ⟨j, hj, rfl⟩ := List.getElem_of_mem hc
            exact unhide HG j hj (by omega)⟩
          go_wp2
          go_ret
          exact ⟨ret_bool (unhide HE).symm, hB⟩
    · have HN : Hid (l3T t = false) := by
        cases e : l3T t with
        | false => rfl
        | true => exact absurd ((unhide HL).1 e).2.1 h12
      go_wp2
      go_ret
      exact ⟨ret_bool (unhide HN).symm, hb1⟩

theorem l3Term_any (ao : Option Addr) (cap : Nat) (t : List C) (w : World) (hm : t.length ≤ maxLen) (hA : Row w ao t) (hF : Fit t) :
    Calls Try.prog 140 #[.slice ao t.length cap] w fun e w' => e = .returned (.bool (l3T t)) ∧ Below w.heap.size w w' := by
  rcases hA with rfl | ⟨b, off, rfl, hA⟩
  · have H := hide (specTrmOk_any ao cap [] w (by simp) (.inl rfl) (fun c hc => by simp at hc))
    rw [trm_nil] at H
    go_enter Try.func140, Try.ntmps140
    simp only [List.length_nil] at H ⊢
    go_wp2_with fail
    refine (unhide H).mono ?_
    rintro e w1 ⟨rfl, hb1⟩
    go_wp2
    go_ret
    exact ⟨ret_bool (by simp [l3T, trm_nil]), hb1⟩
  · exact l3Term_some b off cap t w hm hA hF

set_option maxHeartbeats 400000 in
theorem l3Call_any (ao : Option Addr) (cap : Nat) (t : List C) (w : World) (hm : t.length ≤ maxLen) (hA : Row w ao t) :
    Calls Try.prog 113 #[.slice ao t.length cap] w fun e w' => e = .returned (.bool (callT t)) ∧ w' = w := by
  unfold maxLen at hm
  rcases hA with rfl | ⟨b, off, rfl, hA⟩
  · go_enter Try.func113, Try.ntmps113
    try simp only [List.length_nil]
    go_wp2
    go_ret
    exact ⟨ret_bool rfl, rfl⟩
  · cases t with
    | nil =>
      go_enter Try.func113, Try.ntmps113
      try simp only [List.length_nil]
      go_wp2
      go_ret
      exact ⟨ret_bool rfl, rfl⟩
    | cons c r =>
      obtain ⟨c0, c1, c2⟩ := hA 0 (by simp)
      simp only [List.getElem_cons_zero, Nat.zero_mul, Nat.add_zero] at c0
      simp only [List.length_cons] at hm ⊢
      have hp : 0 < r.length + 1 := by omega
      by_cases h3 : c.k = 3
      · have h3b : (c.k == 3) = true := by simpa using h3
        have HE : Hid (callT (c :: r) = true) := by simp [Hid, callT, h3]
        clear h3 hA
        go_enter Try.func113, Try.ntmps113
        go_wp2
        go_ret
        exact ⟨ret_bool (unhide HE).symm, rfl⟩
      · have h3b : (c.k == 3) = false := by simpa using h3
        have HE : Hid (callT (c :: r) = false) := by simp [Hid, callT, h3]
        clear h3 hA
        go_enter Try.func113, Try.ntmps113
        go_wp2
        go_ret
        exact ⟨ret_bool (unhide HE).symm, rfl⟩
end Go.Proofs.Ytkedckmpjedjoaa
