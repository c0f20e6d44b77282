/- The walks of the model's look at places: l1In, l1Name, l1Cell, l1End, TrmOk. -/
import Derived.Test.YtjjpmlcaapedhaaDoorQYW1YB1YB2W2
namespace Go.Proofs.YtjjpmlcaapedhaaDoor
open Go.RowKit
set_option linter.unusedVariables false
set_option linter.unusedSimpArgs false

set_option maxHeartbeats 400000 in
theorem l1In_any (n lo hi : Int) (w : World) :
    Calls Tryd.prog 49 #[.int .i64 n, .int .i64 lo, .int .i64 hi] w fun e w' => e = .returned (.bool (decide (lo ≤ n ∧ n ≤ hi))) ∧ w' = w := by
  by_cases h1 : lo ≤ n
  · go_enter Tryd.func49, Tryd.ntmps49
    go_wp2
    go_ret
    exact ⟨ret_bool (by simp [h1]), rfl⟩
  · go_enter Tryd.func49, Tryd.ntmps49
    go_wp2
    go_ret
    exact ⟨ret_bool (by simp; omega), rfl⟩

theorem letters_no {s : ByteArray} {k : Nat} (h : k < s.size) (hb : small s[k].toNat = false) : letters s = false := by
  unfold letters
  rw [List.all_eq_false]
  exact ⟨s[k], by rw [show s[k] = s.data.toList[k]'(by simpa using h) from rfl]; exact List.getElem_mem _, by simp [hb]⟩

theorem letters_yes {s : ByteArray} (h : ∀ j : Nat, (h : j < s.size) → small s[j].toNat = true) : letters s = true := by
  unfold letters
  rw [List.all_eq_true]
  intro c hc
  obtain ⟨j, hj, rfl⟩ := List.mem_iff_getElem.1 hc
  exact h j (by simpa using hj)

set_option maxHeartbeats 1000000 in
theorem l1Name_any (s : ByteArray) (w : World) (hs : s.size ≤ maxLen) :
    Calls Tryd.prog 50 #[.string s] w fun e w' => e = .returned (.bool (nameB s)) ∧ w' = w := by
  unfold maxLen at hs
  by_cases h1 : s.size = 0
  · have hz : ((s.size : Int) == 0) = true := by simp only [beq_iff_eq]; omega
    go_enter Tryd.func50, Tryd.ntmps50
    go_wp2
    go_ret
    exact ⟨ret_bool (by unfold nameB; rw [h1]; rfl), rfl⟩
  · have hz : ((s.size : Int) == 0) = false := by rw [beq_eq_false_iff_ne]; omega
    by_cases h2 : s.size ≤ 8
    · have hnb : nameB s = letters s := by unfold nameB; simp only [h2, decide_true, Bool.and_true, Bool.true_and, show 1 ≤ s.size by omega]
      have HN : Hid (nameB s = letters s) := hnb
      clear hnb
      go_enter Tryd.func50, Tryd.ntmps50
      go_wp2
      go_loop [3] (fun i => ∃ k : Nat, k ≤ s.size ∧ i = .int .i64 k ∧ ∀ j : Nat, (h : j < s.size) → j < k → small s[j].toNat = true) (fun i => s.size - (intOf i).toNat)
      case atStart => exact ⟨0, Nat.zero_le _, rfl, fun j _ h => absurd h (Nat.not_lt_zero _)⟩
      case round =>
        obtain ⟨k, hk, rfl, hall⟩ := hrel
        have H : Hid (∀ j : Nat, (h : j < s.size) → j < k → small s[j].toNat = true) := hall
        clear hall
        by_cases hlt : k < s.size
        · by_cases ha : 97 ≤ (s[k].toNat : Int)
          · by_cases hz : (s[k].toNat : Int) ≤ 122
            · go_wp2
              go_round
              case rel =>
                refine ⟨k + 1, by omega, by go_num, fun j hj hjk => ?_⟩
                by_cases e : j = k
                · subst e; exact small_yes ha hz
                · exact H.out j hj (by omega)
              case measure => simp [intOf]; omega
            · go_wp2
              go_ret
              exact ⟨ret_bool (by rw [HN.out, letters_no hlt (small_no (.inr (by omega)))]), rfl⟩
          · go_wp2
            go_ret
            exact ⟨ret_bool (by rw [HN.out, letters_no hlt (small_no (.inl (by omega)))]), rfl⟩
        · go_wp2
          go_ret
          exact ⟨ret_bool (by rw [HN.out, letters_yes (fun j hj => H.out j hj (by omega))]), rfl⟩
    · go_enter Tryd.func50, Tryd.ntmps50
      go_wp2
      go_ret
      exact ⟨ret_bool (by simp [nameB, h2]), rfl⟩

set_option maxHeartbeats 1000000 in
theorem l1Cell_any (c : C) (w : World) (hs : c.s.size ≤ maxLen) :
    Calls Tryd.prog 30 #[.agg #[.int .i64 c.k, .int .i64 c.n, .string c.s]] w fun e w' => e = .returned (.bool (okC c)) ∧ Below w.heap.size w w' := by
  by_cases h1 : c.k = 1
  · have hb : (c.k == 1) = true := by simpa using h1
    have H : Hid (okC c = true ↔ 0 ≤ c.n ∧ c.n ≤ 99999 ∧ c.s.size = 0) := okC1 h1
    clear h1
    by_cases hn : 0 ≤ c.n ∧ c.n ≤ 99999
    · have hd : decide (0 ≤ c.n ∧ c.n ≤ 99999) = true := by simpa using hn
      by_cases he : 1 ≤ c.s.size
      · have hz := empty_no he
        go_enter Tryd.func30, Tryd.ntmps30
        go_wp2_with (go_at_call 49; refine (l1In_any _ _ _ _).mono ?_; rw [hd]; rintro e w' ⟨rfl, rfl⟩)
        go_ret
        exact ⟨ret_bool (iff_no H.out (by omega)), cell_below _ _⟩
      · have hz := empty_yes he
        go_enter Tryd.func30, Tryd.ntmps30
        go_wp2_with (go_at_call 49; refine (l1In_any _ _ _ _).mono ?_; rw [hd]; rintro e w' ⟨rfl, rfl⟩)
        go_ret
        exact ⟨ret_bool (H.out.2 (by omega)).symm, cell_below _ _⟩
    · have hd : decide (0 ≤ c.n ∧ c.n ≤ 99999) = false := by simpa using hn
      have HN : Hid (¬ (0 ≤ c.n ∧ c.n ≤ 99999)) := hn
      clear hn
      go_enter Tryd.func30, Tryd.ntmps30
      go_wp2_with (go_at_call 49; refine (l1In_any _ _ _ _).mono ?_; rw [hd]; rintro e w' ⟨rfl, rfl⟩)
      go_ret
      exact ⟨ret_bool (iff_no H.out (fun h => HN.out ⟨h.1, h.2.1⟩)), cell_below _ _⟩
  · have hb : (c.k == 1) = false := by simpa using h1
    by_cases h2 : c.k = 2
    · have hb2 : (c.k == 2) = true := by simpa using h2
      have H : Hid (okC c = true ↔ -9999 ≤ c.n ∧ c.n ≤ 9999 ∧ c.s.size = 0) := okC2 h2
      clear h1 h2
      by_cases hn : -9999 ≤ c.n ∧ c.n ≤ 9999
      · have hd : decide (-9999 ≤ c.n ∧ c.n ≤ 9999) = true := by simpa using hn
        by_cases he : 1 ≤ c.s.size
        · have hz := empty_no he
          go_enter Tryd.func30, Tryd.ntmps30
          go_wp2_with (go_at_call 49; refine (l1In_any _ _ _ _).mono ?_; rw [hd]; rintro e w' ⟨rfl, rfl⟩)
          go_ret
          exact ⟨ret_bool (iff_no H.out (by omega)), cell_below _ _⟩
        · have hz := empty_yes he
          go_enter Tryd.func30, Tryd.ntmps30
          go_wp2_with (go_at_call 49; refine (l1In_any _ _ _ _).mono ?_; rw [hd]; rintro e w' ⟨rfl, rfl⟩)
          go_ret
          exact ⟨ret_bool (H.out.2 (by omega)).symm, cell_below _ _⟩
      · have hd : decide (-9999 ≤ c.n ∧ c.n ≤ 9999) = false := by simpa using hn
        have HN : Hid (¬ (-9999 ≤ c.n ∧ c.n ≤ 9999)) := hn
        clear hn
        go_enter Tryd.func30, Tryd.ntmps30
        go_wp2_with (go_at_call 49; refine (l1In_any _ _ _ _).mono ?_; rw [hd]; rintro e w' ⟨rfl, rfl⟩)
        go_ret
        exact ⟨ret_bool (iff_no H.out (fun h => HN.out ⟨h.1, h.2.1⟩)), cell_below _ _⟩
    · have hb2 : (c.k == 2) = false := by simpa using h2
      by_cases h3 : c.k = 3
      · have hb3 : (c.k == 3) = true := by simpa using h3
        have H : Hid (okC c = true ↔ 0 ≤ c.n ∧ c.n ≤ 3 ∧ nameB c.s = true) := okC3 h3
        clear h1 h2 h3
        by_cases hn : 0 ≤ c.n ∧ c.n ≤ 3
        · have hd : decide (0 ≤ c.n ∧ c.n ≤ 3) = true := by simpa using hn
          have HO : Hid (nameB c.s = okC c) := by show _ = _; rw [Bool.eq_iff_iff, H.out]; exact ⟨fun h => ⟨hn.1, hn.2, h⟩, fun h => h.2.2⟩
          go_enter Tryd.func30, Tryd.ntmps30
          go_wp2_with (first | (go_at_call 49; refine (l1In_any _ _ _ _).mono ?_; rw [hd]; rintro e w' ⟨rfl, rfl⟩) | (go_at_call 50; refine (l1Name_any _ _ hs).mono ?_; rintro e w' ⟨rfl, rfl⟩))
          go_ret
          exact ⟨ret_bool HO.out, cell_below _ _⟩
        · have hd : decide (0 ≤ c.n ∧ c.n ≤ 3) = false := by simpa using hn
          have HN : Hid (¬ (0 ≤ c.n ∧ c.n ≤ 3)) := hn
          clear hn
          go_enter Tryd.func30, Tryd.ntmps30
          go_wp2_with (go_at_call 49; refine (l1In_any _ _ _ _).mono ?_; rw [hd]; rintro e w' ⟨rfl, rfl⟩)
          go_ret
          exact ⟨ret_bool (iff_no H.out (fun h => HN.out ⟨h.1, h.2.1⟩)), cell_below _ _⟩
      · have hb3 : (c.k == 3) = false := by simpa using h3
        have H : Hid (okC c = false) := okC4 h1 h2 h3
        clear h1 h2 h3
        go_enter Tryd.func30, Tryd.ntmps30
        go_wp2
        go_ret
        exact ⟨ret_bool (by rw [H.out]), cell_below _ _⟩
end Go.Proofs.YtjjpmlcaapedhaaDoor
