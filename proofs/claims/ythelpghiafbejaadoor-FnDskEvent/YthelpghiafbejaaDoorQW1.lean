/- The walks of the program's own look at places: isSmall, countWhile, nameOk, cellOk, cellArity. -/
import Derived.Test.YthelpghiafbejaaDoorChecked
import Derived.Test.YthelpghiafbejaaDoorQPlain
import Derived.WalkKit
import Derived.WalkLawsBesides
import Derived.Outline
namespace Go.Proofs.YthelpghiafbejaaDoor
open Go.RowKit
set_option linter.unusedVariables false
set_option linter.unusedSimpArgs false

theorem ret_int {k : IntKind} {a b : Int} (h : a = b) : Ending.returned (.int k a) = .returned (.int k b) := by rw [h]
theorem ret_bool {a b : Bool} (h : a = b) : Ending.returned (.bool a) = .returned (.bool b) := by rw [h]

set_option maxHeartbeats 400000 in
theorem isSmall_any (c : Int) (w : World) :
    Calls Tryd.prog 44 #[.int .u8 c] w fun e w' => e = .returned (.bool (small c)) ∧ w' = w := by
  by_cases h1 : 97 ≤ c
  · by_cases h2 : c ≤ 122
    · go_enter Tryd.func44, Tryd.ntmps44
      go_wp2
      go_ret
      exact ⟨by simp [small, h1, h2], rfl⟩
    · go_enter Tryd.func44, Tryd.ntmps44
      go_wp2
      go_ret
      exact ⟨by simp [small]; omega, rfl⟩
  · go_enter Tryd.func44, Tryd.ntmps44
    go_wp2
    go_ret
    exact ⟨by simp [small]; omega, rfl⟩

set_option maxHeartbeats 400000 in
theorem countWhile_any (s : ByteArray) (w : World) (hs : s.size ≤ maxLen) :
    Calls Tryd.prog 43 #[.string s, .func (.func 44) #[] #[]] w fun e w' => e = .returned (.int .i64 (cnt s.data.toList)) ∧ w' = w := by
  unfold maxLen at hs
  have hsz : s.data.toList.length = s.size := by simp
  go_enter Tryd.func43, Tryd.ntmps43
  go_wp2
  go_loop [5] (fun i => ∃ k : Nat, k ≤ s.size ∧ i = .int .i64 k ∧ ∀ j : Nat, (h : j < s.size) → j < k → small s[j].toNat = true) (fun i => s.size - (intOf i).toNat)
  case atStart => exact ⟨0, Nat.zero_le _, rfl, fun j _ h => absurd h (Nat.not_lt_zero _)⟩
  case round =>
    obtain ⟨k, hk, rfl, hall⟩ := hrel
    have H : Hid (∀ j : Nat, (h : j < s.size) → j < k → small s[j].toNat = true) := hall
    clear hall
    by_cases hlt : k < s.size
    · by_cases hb : small s[k].toNat = true
      · go_wp2_with (go_at_call 44; refine (isSmall_any _ _).mono ?_; rintro e w' ⟨rfl, rfl⟩)
        go_round
        case rel =>
          refine ⟨k + 1, by omega, by go_num, fun j hj hjk => ?_⟩
          by_cases e : j = k
          · subst e; exact hb
          · exact H.out j hj (by omega)
        case measure => simp [intOf]; omega
      · have hb' : small s[k].toNat = false := by simpa using hb
        clear hb
        go_wp2_with (go_at_call 44; refine (isSmall_any _ _).mono ?_; rintro e w' ⟨rfl, rfl⟩)
        go_ret
        exact ⟨ret_int (by rw [cnt_stop s.data.toList k (fun j hj hjk => H.out j (by simpa using hj) hjk) (by simpa using hlt) hb']), rfl⟩
    · go_wp2
      go_ret
      exact ⟨ret_int (by rw [cnt_all s.data.toList (fun j hj => H.out j (by simpa using hj) (by simp at hj; omega))]; simp; omega), rfl⟩

theorem nameB_eq (s : ByteArray) (h1 : 1 ≤ s.size) (h2 : s.size ≤ 8) : nameB s = decide (cnt s.data.toList = s.size) := by
  have := cnt_eq_iff s.data.toList
  simp only [nameB, letters, h1, h2, decide_true, Bool.true_and]
  rw [Bool.eq_iff_iff, ← this]
  simp

theorem empty_no {s : ByteArray} (h : 1 ≤ s.size) : s.toList.isEmpty = false := by
  have hsz : s.data.toList.length = s.size := by simp
  rw [ByteArray.toList_eq]
  cases e : s.data.toList with
  | nil => have : s.data.toList.length = 0 := by rw [e]; rfl
           rw [hsz] at this; omega
  | cons a r => rfl
theorem empty_yes {s : ByteArray} (h : ¬ 1 ≤ s.size) : s.toList.isEmpty = true := by
  have hsz : s.data.toList.length = s.size := by simp
  rw [ByteArray.toList_eq]
  have : s.data.toList.length = 0 := by omega
  rw [List.length_eq_zero_iff] at this
  rw [this]; rfl

set_option maxHeartbeats 400000 in
theorem nameOk_any (s : ByteArray) (w : World) (hs : s.size ≤ maxLen) :
    Calls Tryd.prog 36 #[.string s] w fun e w' => e = .returned (.bool (nameB s)) ∧ w' = w := by
  by_cases h1 : 1 ≤ s.size
  · have he := empty_no h1
    by_cases h2 : s.size ≤ 8
    · have hn := nameB_eq s h1 h2
      have H : Hid (nameB s = decide (cnt s.data.toList = s.size)) := hn
      clear hn
      go_enter Tryd.func36, Tryd.ntmps36
      go_wp2_with (go_at_call 43; refine (countWhile_any _ _ hs).mono ?_; rintro e w' ⟨rfl, rfl⟩)
      go_ret
      exact ⟨ret_bool (by rw [H.out, Bool.eq_iff_iff]; simp; omega), rfl⟩
    · go_enter Tryd.func36, Tryd.ntmps36
      go_wp2
      go_ret
      exact ⟨ret_bool (by simp [nameB]; omega), rfl⟩
  · have he := empty_yes h1
    go_enter Tryd.func36, Tryd.ntmps36
    go_wp2
    go_ret
    exact ⟨ret_bool (by simp [nameB]; omega), rfl⟩

set_option maxHeartbeats 400000 in
theorem cellArity_any (c : C) (w : World) :
    Calls Tryd.prog 32 #[.agg #[.int .i64 c.k, .int .i64 c.n, .string c.s]] w fun e w' => e = .returned (.int .i64 (ari c)) ∧ Below w.heap.size w w' := by
  by_cases h : c.k = 3
  · have hb : (c.k == 3) = true := by simpa using h
    go_enter Tryd.func32, Tryd.ntmps32
    go_wp2
    go_ret
    exact ⟨ret_int (by simp [ari, h]), (Below.refl _ _).alloc (Nat.le_refl _) _⟩
  · have hb : (c.k == 3) = false := by simpa using h
    go_enter Tryd.func32, Tryd.ntmps32
    go_wp2
    go_ret
    exact ⟨ret_int (by simp [ari, h]), (Below.refl _ _).alloc (Nat.le_refl _) _⟩

theorem okC1 {c : C} (h : c.k = 1) : okC c = true ↔ 0 ≤ c.n ∧ c.n ≤ 99999 ∧ c.s.size = 0 := by
  unfold okC; rw [if_pos h]; simp only [Bool.and_eq_true, decide_eq_true_eq]; omega
theorem okC2 {c : C} (h : c.k = 2) : okC c = true ↔ -9999 ≤ c.n ∧ c.n ≤ 9999 ∧ c.s.size = 0 := by
  unfold okC; rw [if_neg (by omega), if_pos h]; simp only [Bool.and_eq_true, decide_eq_true_eq]; omega
theorem okC3 {c : C} (h : c.k = 3) : okC c = true ↔ 0 ≤ c.n ∧ c.n ≤ 3 ∧ nameB c.s = true := by
  unfold okC; rw [if_neg (by omega), if_neg (by omega), if_pos h]; simp only [Bool.and_eq_true, decide_eq_true_eq]; exact and_assoc
theorem okC4 {c : C} (h1 : c.k ≠ 1) (h2 : c.k ≠ 2) (h3 : c.k ≠ 3) : okC c = false := by
  unfold okC; rw [if_neg h1, if_neg h2, if_neg h3]

theorem iff_no {b : Bool} {P : Prop} (h : b = true ↔ P) (hp : ¬ P) : false = b := by
  cases b with
  | false => rfl
  | true => exact absurd (h.1 rfl) hp
theorem iff_dec {b : Bool} {P q : Prop} [Decidable q] (h : b = true ↔ P) (hp : P ↔ q) : decide q = b := by
  rw [Bool.eq_iff_iff, h, hp]; simp

theorem cell_below (w : World) (o : Obj) : Below w.heap.size w (w.alloc o) := (Below.refl _ _).alloc (Nat.le_refl _) _

set_option maxHeartbeats 1000000 in
theorem cellOk_any (c : C) (w : World) (hs : c.s.size ≤ maxLen) :
    Calls Tryd.prog 31 #[.agg #[.int .i64 c.k, .int .i64 c.n, .string c.s]] w fun e w' => e = .returned (.bool (okC c)) ∧ Below w.heap.size w w' := by
  by_cases h1 : c.k = 1
  · have hb : (c.k == 1) = true := by simpa using h1
    have H : Hid (okC c = true ↔ 0 ≤ c.n ∧ c.n ≤ 99999 ∧ c.s.size = 0) := okC1 h1
    clear h1
    by_cases he : 1 ≤ c.s.size
    · have hz := empty_no he
      go_enter Tryd.func31, Tryd.ntmps31
      go_wp2
      go_ret
      exact ⟨ret_bool (by first | exact iff_no H.out (by omega) | exact iff_dec H.out (by omega)), cell_below _ _⟩
    · have hz := empty_yes he
      by_cases h2 : 0 ≤ c.n
      · go_enter Tryd.func31, Tryd.ntmps31
        go_wp2
        all_goals go_ret
        all_goals exact ⟨ret_bool (by first | exact iff_no H.out (by omega) | exact iff_dec H.out (by omega)), cell_below _ _⟩
      · go_enter Tryd.func31, Tryd.ntmps31
        go_wp2
        go_ret
        exact ⟨ret_bool (by first | exact iff_no H.out (by omega) | exact iff_dec H.out (by omega)), cell_below _ _⟩
  · have hb : (c.k == 1) = false := by simpa using h1
    by_cases h2 : c.k = 2
    · have hb2 : (c.k == 2) = true := by simpa using h2
      have H : Hid (okC c = true ↔ -9999 ≤ c.n ∧ c.n ≤ 9999 ∧ c.s.size = 0) := okC2 h2
      clear h1 h2
      by_cases he : 1 ≤ c.s.size
      · have hz := empty_no he
        go_enter Tryd.func31, Tryd.ntmps31
        go_wp2
        go_ret
        exact ⟨ret_bool (by first | exact iff_no H.out (by omega) | exact iff_dec H.out (by omega)), cell_below _ _⟩
      · have hz := empty_yes he
        by_cases h2 : -9999 ≤ c.n
        · go_enter Tryd.func31, Tryd.ntmps31
          go_wp2
          all_goals go_ret
          all_goals exact ⟨ret_bool (by first | exact iff_no H.out (by omega) | exact iff_dec H.out (by omega)), cell_below _ _⟩
        · go_enter Tryd.func31, Tryd.ntmps31
          go_wp2
          go_ret
          exact ⟨ret_bool (by first | exact iff_no H.out (by omega) | exact iff_dec H.out (by omega)), cell_below _ _⟩
    · have hb2 : (c.k == 2) = false := by simpa using h2
      by_cases h3 : c.k = 3
      · have hb3 : (c.k == 3) = true := by simpa using h3
        have H : Hid (okC c = true ↔ 0 ≤ c.n ∧ c.n ≤ 3 ∧ nameB c.s = true) := okC3 h3
        clear h1 h2 h3
        cases hn : nameB c.s with
        | false =>
          go_enter Tryd.func31, Tryd.ntmps31
          go_wp2_with (go_at_call 36; refine (nameOk_any _ _ hs).mono ?_; rintro e w' ⟨rfl, rfl⟩)
          go_ret
          exact ⟨ret_bool (iff_no H.out (by simp [hn])), cell_below _ _⟩
        | true =>
          by_cases h2 : 0 ≤ c.n
          · go_enter Tryd.func31, Tryd.ntmps31
            go_wp2_with (go_at_call 36; refine (nameOk_any _ _ hs).mono ?_; rintro e w' ⟨rfl, rfl⟩)
            all_goals go_ret
            all_goals exact ⟨ret_bool (by first | exact iff_no H.out (by simp only [hn, and_true]; omega) | exact iff_dec H.out (by simp only [hn, and_true]; omega)), cell_below _ _⟩
          · go_enter Tryd.func31, Tryd.ntmps31
            go_wp2_with (go_at_call 36; refine (nameOk_any _ _ hs).mono ?_; rintro e w' ⟨rfl, rfl⟩)
            all_goals go_ret
            all_goals exact ⟨ret_bool (by first | exact iff_no H.out (by simp only [hn, and_true]; omega) | exact iff_dec H.out (by simp only [hn, and_true]; omega)), cell_below _ _⟩
      · have hb3 : (c.k == 3) = false := by simpa using h3
        have H : Hid (okC c = false) := okC4 h1 h2 h3
        clear h1 h2 h3
        go_enter Tryd.func31, Tryd.ntmps31
        go_wp2
        go_ret
        exact ⟨ret_bool (by rw [H.out]), cell_below _ _⟩
end Go.Proofs.YthelpghiafbejaaDoor
