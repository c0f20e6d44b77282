import Derived.Test.YthgfhimhgeohcaaQW2W3
import Derived.Test.YthgfhimhgeohcaaQPlainMemOpenW1
/- The walks of the model's l1End and TrmOk. -/
namespace Go.Proofs.Ythgfhimhgeohcaa
open Go.RowKit
set_option linter.unusedVariables false
set_option linter.unusedSimpArgs false

/-- Where the term that begins at a place ends; -1, if it does not. -/
def endV (t : List C) (p : Nat) : Int := match ends 1 (t.drop p) with
  | some e => (p : Int) + e
  | none => -1

theorem ends_step {t : List C} {j : Nat} (h : j < t.length) (m : Int) (hm : 0 < m) : ends m (t.drop j) = (ends (m - 1 + ari t[j]) (t.drop (j + 1))).map (· + 1) := by
  rw [List.drop_eq_getElem_cons h]; simp [ends]; omega
theorem ends_zero {t : List C} {j : Nat} (m : Int) (hm : m ≤ 0) : ends m (t.drop j) = some 0 := by
  cases t.drop j <;> simp [ends, hm]
theorem ends_none {t : List C} {j : Nat} (h : ¬ j < t.length) (m : Int) (hm : 0 < m) : ends m (t.drop j) = none := by
  rw [List.drop_eq_nil_iff.2 (by omega)]; simp [ends]; omega

theorem endV_step {t : List C} {p j : Nat} (hpj : p ≤ j) (h : j < t.length) (m : Int) (hm : 0 < m) (hg : ends 1 (t.drop p) = (ends m (t.drop j)).map (· + (j - p))) :
    ends 1 (t.drop p) = (ends (m - 1 + ari t[j]) (t.drop (j + 1))).map (· + (j + 1 - p)) := by
  rw [hg, ends_step h m hm, Option.map_map]
  congr 1
  funext x
  simp; omega

theorem endV_end {t : List C} {p j : Nat} (hpj : p ≤ j) (m : Int) (hm : m ≤ 0) (hg : ends 1 (t.drop p) = (ends m (t.drop j)).map (· + (j - p))) : endV t p = j := by
  unfold endV
  rw [hg, ends_zero m hm]
  simp; omega

theorem endV_none {t : List C} {p j : Nat} (h : ¬ j < t.length) (m : Int) (hm : 0 < m) (hg : ends 1 (t.drop p) = (ends m (t.drop j)).map (· + (j - p))) : endV t p = -1 := by
  unfold endV
  rw [hg, ends_none h m hm]
  rfl

set_option maxHeartbeats 1000000 in
theorem l1End_some (b off cap p : Nat) (t : List C) (w : World) (hm : t.length ≤ 40) (hp : p ≤ t.length) (hA : At w b off t) (hok : ∀ c ∈ t, okC c = true) :
    Calls Try.prog 136 #[.slice (some ⟨b, off, none⟩) t.length cap, .int .i64 p] w fun e w' => e = .returned (.int .i64 (endV t p)) ∧ w' = w := by
  have HO := hide hok
  clear hok
  go_enter Try.func136, Try.ntmps136
  go_wp2
  go_loop [5, 6] (fun o i => ∃ (j : Nat) (m : Int), p ≤ j ∧ j ≤ t.length ∧ i = .int .i64 j ∧ o = .int .i64 m ∧ 0 ≤ m ∧ m ≤ 1 + 3 * j ∧ ends 1 (t.drop p) = (ends m (t.drop j)).map (· + (j - p))) (fun _ i => t.length - (intOf i).toNat)
  case atStart => exact ⟨p, 1, Nat.le_refl _, hp, rfl, rfl, by omega, by omega, by simp⟩
  case round =>
    obtain ⟨j, m, hpj, hj, rfl, rfl, hm0, hm1, hg⟩ := hrel
    have H := hide hg
    clear hg
    by_cases hmp : 0 < m
    · by_cases hlt : j < t.length
      · obtain ⟨c0, c1, c2⟩ := hA j hlt
        have hari := ari_ok (unhide HO _ (List.getElem_mem hlt))
        obtain ⟨c, hc⟩ : ∃ c, c = t[j] := ⟨_, rfl⟩
        rw [← hc] at c0 c1 c2 hari
        have HC := hide hc
        clear hc
        by_cases h3 : c.k = 3
        · have hb : (c.k == 3) = true := by simpa using h3
          have ha : ari c = c.n := by simp [ari, h3]
          rw [ha] at hari
          have HA := hide ha
          clear ha h3
          go_wp2
          go_round
          case rel => exact ⟨j + 1, m - 1 + c.n, by omega, by omega, by go_num, by go_num, by omega, by omega, by rw [← unhide HA, unhide HC]; exact endV_step hpj hlt m hmp (unhide H)⟩
          case measure => simp [intOf]; omega
        · have hb : (c.k == 3) = false := by simpa using h3
          have ha : ari c = 0 := by simp [ari, h3]
          have HA := hide ha
          clear ha h3 hari
          go_wp2
          go_round
          case rel => exact ⟨j + 1, m - 1, by omega, by omega, by go_num, by go_num, by omega, by omega, by have := endV_step hpj hlt m hmp (unhide H); rw [← unhide HC, unhide HA, Int.add_zero] at this; exact this⟩
          case measure => simp [intOf]; omega
      · go_wp2
        go_ret
        exact ⟨ret_int (by rw [endV_none hlt m hmp (unhide H)]), rfl⟩
    · go_wp2
      go_ret
      exact ⟨ret_int (by rw [endV_end hpj m (by omega) (unhide H)]), rfl⟩

theorem endV_whole {t : List C} (h1 : 1 ≤ t.length) : endV t 0 = t.length ↔ ends 1 t = some t.length := by
  unfold endV
  rw [List.drop_zero]
  cases ends 1 t with
  | none => simp
  | some e => simp; omega

set_option maxHeartbeats 1000000 in
theorem specTrmOk_some (b off cap : Nat) (t : List C) (w : World) (hm : t.length ≤ maxLen) (hA : At w b off t) (hF : Fit t) :
    Calls Try.prog 101 #[.slice (some ⟨b, off, none⟩) t.length cap] w fun e w' => e = .returned (.bool (trm t)) ∧ Below w.heap.size w w' := by
  unfold maxLen at hm
  have HT := hide (trm_iff t)
  by_cases h0 : t.length = 0
  · have hz : ((t.length : Int) == 0) = true := by simp only [beq_iff_eq]; omega
    go_enter Try.func101, Try.ntmps101
    go_wp2
    go_ret
    exact ⟨ret_bool (iff_no (unhide HT) (by omega)), Below.refl _ _⟩
  · have hz : ((t.length : Int) == 0) = false := by rw [beq_eq_false_iff_ne]; omega
    by_cases h40 : t.length ≤ 40
    · go_enter Try.func101, Try.ntmps101
      go_wp2
      go_loopw [3] (fun i wr => ∃ (k : Nat), k ≤ t.length ∧ i = .int .i64 k ∧ (∀ j, (h : j < t.length) → j < k → okC t[j] = true) ∧ Below w.heap.size w wr) (fun i _ => t.length - (intOf i).toNat)
      case atStart => exact ⟨0, Nat.zero_le _, rfl, fun j _ h => absurd h (Nat.not_lt_zero _), Below.refl _ _⟩
      case round =>
        obtain ⟨k, hk, rfl, hg, hB⟩ := hrel
        have H := hide hg
        clear hg
        have hA' := hA.below hB
        by_cases hlt : k < t.length
        · obtain ⟨c0, c1, c2⟩ := hA' k hlt
          have hs := hF.get k hlt
          obtain ⟨c, hc⟩ : ∃ c, c = t[k] := ⟨_, rfl⟩
          rw [← hc] at c0 c1 c2 hs
          have HC := hide hc
          clear hc
          cases ho : okC c with
          | false =>
            go_wp2_with fail
            refine (l1Cell_any c _ hs).mono ?_
            rintro e w1 ⟨rfl, hb1⟩
            go_wp2
            go_ret
            refine ⟨ret_bool (iff_no (unhide HT) (fun h => ?_)), bstep hB hb1⟩
            have := h.2.2.1 _ (List.getElem_mem hlt)
            rw [← unhide HC, ho] at this
            cases this
          | true =>
            go_wp2_with fail
            refine (l1Cell_any c _ hs).mono ?_
            rintro e w1 ⟨rfl, hb1⟩
            clear c0 c1 c2
            go_wp2
            go_roundw
            case rel =>
              refine ⟨k + 1, by omega, by go_num, fun j hj hjk => ?_, bstep hB hb1⟩
              by_cases e : j = k
              · subst e; rw [← unhide HC]; exact ho
              · exact unhide H j hj (by omega)
            case measure => simp [intOf]; omega
        · have hall : ∀ c ∈ t, okC c = true := fun c hc => by
            obtain ⟨j, hj, rfl⟩ := List.mem_iff_getElem.1 hc
            exact unhide H j hj (by omega)
          have HALL := hide hall
          clear hall
          go_wp2_with fail
          refine (l1End_some b off cap 0 t _ h40 (Nat.zero_le _) hA' (unhide HALL)).mono ?_
          rintro e w1 ⟨rfl, rfl⟩
          go_wp2
          go_ret
          refine ⟨ret_bool ?_, hB⟩
          rw [Bool.eq_iff_iff, unhide HT, ← endV_whole (by omega)]
          simp only [beq_iff_eq]
          exact ⟨fun h => ⟨by omega, h40, unhide HALL, h⟩, fun h => h.2.2.2⟩
    · go_enter Try.func101, Try.ntmps101
      go_wp2
      go_ret
      exact ⟨ret_bool (iff_no (unhide HT) (by omega)), Below.refl _ _⟩

set_option maxHeartbeats 400000 in
theorem specTrmOk_none (ao : Option Addr) (cap : Nat) (w : World) :
    Calls Try.prog 101 #[.slice ao 0 cap] w fun e w' => e = .returned (.bool false) ∧ Below w.heap.size w w' := by
  go_enter Try.func101, Try.ntmps101
  go_wp2
  go_ret
  exact ⟨rfl, Below.refl _ _⟩

/-- The model's TrmOk, of whatever places: whether they are a term. -/
theorem specTrmOk_any (ao : Option Addr) (cap : Nat) (t : List C) (w : World) (hm : t.length ≤ maxLen) (hA : Row w ao t) (hF : Fit t) :
    Calls Try.prog 101 #[.slice ao t.length cap] w fun e w' => e = .returned (.bool (trm t)) ∧ Below w.heap.size w w' := by
  rcases hA with rfl | ⟨b, off, rfl, hA⟩
  · rw [trm_nil]; exact specTrmOk_none ao cap w
  · exact specTrmOk_some b off cap t w hm hA hF
end Go.Proofs.Ythgfhimhgeohcaa

/- The plain mathematics of terms, more: a term's places are just its. -/
namespace Go.Proofs.Ythgfhimhgeohcaa
set_option linter.unusedVariables false
set_option linter.unusedSimpArgs false

theorem ends_append : ∀ (a b : List C) (m : Int) (j : Nat), ends m a = some j → ends m (a ++ b) = some j
  | [], b, m, j, h => by
      simp only [ends] at h
      by_cases hm : m ≤ 0
      · rw [if_pos hm] at h
        cases b <;> simp [ends, hm] <;> simpa using h
      · rw [if_neg hm] at h; cases h
  | c :: a, b, m, j, h => by
      simp only [ends, List.cons_append] at h ⊢
      by_cases hm : m ≤ 0
      · rw [if_pos hm] at h ⊢; exact h
      · rw [if_neg hm] at h ⊢
        cases he : ends (m - 1 + ari c) a with
        | none => rw [he] at h; cases h
        | some i =>
          rw [he] at h
          rw [ends_append a b _ i he]
          exact h

/-- No beginning of a term but all of it is a term. -/
theorem trm_take {t : List C} (h : trm t = true) {k : Nat} (hk : k < t.length) : trm (t.take k) = false := by
  cases e : trm (t.take k) with
  | false => rfl
  | true =>
    exfalso
    have h1 := ((trm_iff t).1 h).2.2.2
    have h2 := ((trm_iff _).1 e).2.2.2
    have h3 := ends_append _ (t.drop k) _ _ h2
    rw [List.take_append_drop, h1] at h3
    simp at h3
    omega

/-- With one place more it is none. -/
theorem trm_more {t : List C} (h : trm t = true) (c : C) : trm (t ++ [c]) = false := by
  cases e : trm (t ++ [c]) with
  | false => rfl
  | true =>
    exfalso
    have h1 := ((trm_iff t).1 h).2.2.2
    have h2 := ((trm_iff _).1 e).2.2.2
    rw [ends_append t [c] _ _ h1] at h2
    simp at h2

theorem trm_len {t : List C} (h : trm t = true) : 1 ≤ t.length ∧ t.length ≤ 40 := ⟨((trm_iff t).1 h).1, ((trm_iff t).1 h).2.1⟩

theorem trm_one : trm [⟨2, 1, ByteArray.mk #[]⟩] = true := by decide
end Go.Proofs.Ythgfhimhgeohcaa

/- Goals: when one may stand in a clause; the walks of the model's l3Term, l3Call and GoalOk. -/
namespace Go.Proofs.Ythgfhimhgeohcaa
open Go.RowKit
set_option linter.unusedVariables false
set_option linter.unusedSimpArgs false

/-- A place has a variable that clauses have not. -/
def farC (c : C) : Bool := decide (c.k = 1) && decide (8 ≤ c.n)
/-- A term may stand in a clause. -/
def l3T (t : List C) : Bool := trm t && decide (t.length ≤ 12) && !(t.any farC)
/-- A term may be called. -/
def callT : List C → Bool
  | [] => false
  | c :: _ => decide (c.k = 3)
/-- A goal may stand in a clause. -/
def goalB (k : Int) (a b c : List C) : Bool :=
  if k = 1 then l3T a && callT a && decide (b.length + c.length = 0)
  else if k = 3 then decide (a.length + b.length + c.length = 0)
  else if k = 2 ∨ k = 4 then l3T a && l3T b && decide (c.length = 0)
  else if k = 5 then l3T a && l3T b && l3T c
  else false

theorem l3T_iff (t : List C) : l3T t = true ↔ trm t = true ∧ t.length ≤ 12 ∧ ∀ c ∈ t, farC c = false := by
  unfold l3T
  simp only [Bool.and_eq_true, decide_eq_true_eq, Bool.not_eq_true', List.any_eq_false, Bool.not_eq_true, and_assoc]

set_option maxRecDepth 100000 in
set_option maxHeartbeats 1000000 in
theorem l3Term_some (b off cap : Nat) (t : List C) (w : World) (hm : t.length ≤ maxLen) (hA : At w b off t) (hF : Fit t) :
    Calls Try.prog 123 #[.slice (some ⟨b, off, none⟩) t.length cap] w fun e w' => e = .returned (.bool (l3T t)) ∧ Below w.heap.size w w' := by
  have H := hide (specTrmOk_any (some ⟨b, off, none⟩) cap t w hm (.inr ⟨b, off, rfl, hA⟩) hF)
  have HL := hide (l3T_iff t)
  unfold maxLen at hm
  cases hy : trm t with
  | false =>
    rw [hy] at H
    have HN : Hid (l3T t = false) := by
      cases e : l3T t with
      | false => rfl
      | true => have := (unhide HL).1 e; rw [hy] at this; cases this.1
    clear hy
    go_enter Try.func123, Try.ntmps123
    go_wp2_with fail
    refine (unhide H).mono ?_
    rintro e w1 ⟨rfl, hb1⟩
    go_wp2
    go_ret
    exact ⟨ret_bool (unhide HN).symm, hb1⟩
  | true =>
    rw [hy] at H
    have hl := trm_len hy
    have HY := hide hy
    clear hy
    go_enter Try.func123, Try.ntmps123
    go_wp2_with fail
    refine (unhide H).mono ?_
    clear H
    rintro e w1 ⟨rfl, hb1⟩
    by_cases h12 : t.length ≤ 12
    · go_wp2
      go_loopw [3] (fun i wr => ∃ (k : Nat), k ≤ t.length ∧ i = .int .i64 k ∧ (∀ j, (h : j < t.length) → j < k → farC t[j] = false) ∧ Below w.heap.size w wr) (fun i _ => t.length - (intOf i).toNat)
      case atStart => exact ⟨0, Nat.zero_le _, rfl, fun j _ h => absurd h (Nat.not_lt_zero _), hb1⟩
      case round =>
        obtain ⟨k, hk, rfl, hg, hB⟩ := hrel
        have HG := hide hg
        clear hg
        by_cases hlt : k < t.length
        · obtain ⟨c0, c1, c2⟩ := (hA.below hB) k hlt
          have HN : Hid (farC t[k] = true → l3T t = false) := fun hf => by
            cases e : l3T t with
            | false => rfl
            | true => have := ((unhide HL).1 e).2.2 t[k] (List.getElem_mem hlt); rw [hf] at this; cases this
          have HST : Hid (farC t[k] = false → ∀ j, (h : j < t.length) → j < k + 1 → farC t[j] = false) := fun hf j hj hjk => by
            by_cases e : j = k
            · subst e; exact hf
            · exact unhide HG j hj (by omega)
          generalize t[k] = c at c0 c1 c2 HN HST
          by_cases h1 : c.k = 1
          · have h1b : (c.k == 1) = true := by simpa using h1
            by_cases h8 : 8 ≤ c.n
            · have HE := hide (unhide HN (by simp [farC, h1, h8]))
              clear h1
              go_wp2
              go_ret
              exact ⟨ret_bool (unhide HE).symm, hB⟩
            · have HE := hide (unhide HST (by simp [farC, h8]))
              clear h1
              go_wp2
              go_roundw
              case rel => exact ⟨k + 1, by omega, by go_num, unhide HE, hB⟩
              case measure => simp [intOf]; omega
          · have h1b : (c.k == 1) = false := by simpa using h1
            have HE := hide (unhide HST (by simp [farC, h1]))
            clear h1
            go_wp2
            go_roundw
            case rel => exact ⟨k + 1, by omega, by go_num, unhide HE, hB⟩
            case measure => simp [intOf]; omega
        · have HE : Hid (l3T t = true) := (unhide HL).2 ⟨unhide HY, h12, fun c hc => by
            obtain ⟨j, hj, rfl⟩ := List.getElem_of_mem hc
            exact unhide HG j hj (by omega)⟩
          go_wp2
          go_ret
          exact ⟨ret_bool (unhide HE).symm, hB⟩
    · have HN : Hid (l3T t = false) := by
        cases e : l3T t with
        | false => rfl
        | true => exact absurd ((unhide HL).1 e).2.1 h12
      go_wp2
      go_ret
      exact ⟨ret_bool (unhide HN).symm, hb1⟩

theorem l3Term_any (ao : Option Addr) (cap : Nat) (t : List C) (w : World) (hm : t.length ≤ maxLen) (hA : Row w ao t) (hF : Fit t) :
    Calls Try.prog 123 #[.slice ao t.length cap] w fun e w' => e = .returned (.bool (l3T t)) ∧ Below w.heap.size w w' := by
  rcases hA with rfl | ⟨b, off, rfl, hA⟩
  · have H := hide (specTrmOk_any ao cap [] w (by simp) (.inl rfl) (fun c hc => by simp at hc))
    rw [trm_nil] at H
    go_enter Try.func123, Try.ntmps123
    simp only [List.length_nil] at H ⊢
    go_wp2_with fail
    refine (unhide H).mono ?_
    rintro e w1 ⟨rfl, hb1⟩
    go_wp2
    go_ret
    exact ⟨ret_bool (by simp [l3T, trm_nil]), hb1⟩
  · exact l3Term_some b off cap t w hm hA hF

set_option maxHeartbeats 400000 in
theorem l3Call_any (ao : Option Addr) (cap : Nat) (t : List C) (w : World) (hm : t.length ≤ maxLen) (hA : Row w ao t) :
    Calls Try.prog 102 #[.slice ao t.length cap] w fun e w' => e = .returned (.bool (callT t)) ∧ w' = w := by
  unfold maxLen at hm
  rcases hA with rfl | ⟨b, off, rfl, hA⟩
  · go_enter Try.func102, Try.ntmps102
    try simp only [List.length_nil]
    go_wp2
    go_ret
    exact ⟨ret_bool rfl, rfl⟩
  · cases t with
    | nil =>
      go_enter Try.func102, Try.ntmps102
      try simp only [List.length_nil]
      go_wp2
      go_ret
      exact ⟨ret_bool rfl, rfl⟩
    | cons c r =>
      obtain ⟨c0, c1, c2⟩ := hA 0 (by simp)
      simp only [List.getElem_cons_zero, Nat.zero_mul, Nat.add_zero] at c0
      simp only [List.length_cons] at hm ⊢
      have hp : 0 < r.length + 1 := by omega
      by_cases h3 : c.k = 3
      · have h3b : (c.k == 3) = true := by simpa using h3
        have HE : Hid (callT (c :: r) = true) := by simp [Hid, callT, h3]
        clear h3 hA
        go_enter Try.func102, Try.ntmps102
        go_wp2
        go_ret
        exact ⟨ret_bool (unhide HE).symm, rfl⟩
      · have h3b : (c.k == 3) = false := by simpa using h3
        have HE : Hid (callT (c :: r) = false) := by simp [Hid, callT, h3]
        clear h3 hA
        go_enter Try.func102, Try.ntmps102
        go_wp2
        go_ret
        exact ⟨ret_bool (unhide HE).symm, rfl⟩
end Go.Proofs.Ythgfhimhgeohcaa
