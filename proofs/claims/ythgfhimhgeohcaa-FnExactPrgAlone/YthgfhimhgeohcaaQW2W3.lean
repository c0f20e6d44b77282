import Derived.Test.YthgfhimhgeohcaaQPlainMemOpenW1
/- The walk of the program's TrmOk. -/
namespace Go.Proofs.Ythgfhimhgeohcaa
open Go.RowKit
set_option linter.unusedVariables false
set_option linter.unusedSimpArgs false

theorem goes_step {t : List C} {k : Nat} (h : k < t.length) (x : Int) (hx : x ≠ 0) (ho : okC t[k] = true) : goes x (t.drop k) = goes (x + (ari t[k] - 1)) (t.drop (k + 1)) := by
  rw [List.drop_eq_getElem_cons h]; simp [goes, hx, ho]
theorem goes_zero {t : List C} {k : Nat} (h : k < t.length) : goes 0 (t.drop k) = false := by
  rw [List.drop_eq_getElem_cons h]; simp [goes]
theorem goes_bad {t : List C} {k : Nat} (h : k < t.length) (x : Int) (ho : okC t[k] = false) : goes x (t.drop k) = false := by
  rw [List.drop_eq_getElem_cons h]; simp [goes, ho]
theorem goes_end {t : List C} {k : Nat} (h : ¬ k < t.length) (x : Int) : goes x (t.drop k) = decide (x = 0) := by
  rw [List.drop_eq_nil_iff.2 (by omega)]; rfl

theorem trm_of {t : List C} (h : t.length ≤ 40) {b : Bool} (hg : goes 1 t = b) : trm t = b := by simp [trm, h, hg]
theorem trm_long {t : List C} (h : ¬ t.length ≤ 40) : trm t = false := by simp [trm, h]

set_option maxHeartbeats 1000000 in
theorem TrmOk_some (b off cap : Nat) (t : List C) (w : World) (hm : t.length ≤ maxLen) (hA : At w b off t) (hF : Fit t) :
    Calls Try.prog 137 #[.slice (some ⟨b, off, none⟩) t.length cap] w fun e w' => e = .returned (.bool (trm t)) ∧ Below w.heap.size w w' := by
  unfold maxLen at hm
  by_cases h40 : t.length ≤ 40
  · go_enter Try.func137, Try.ntmps137
    go_wp2
    go_loopw [3, 11] (fun m i wr => ∃ (k : Nat) (x : Int), k ≤ t.length ∧ i = .int .i64 k ∧ m = .int .i64 x ∧ 0 ≤ x ∧ x ≤ 1 + 3 * k ∧ goes 1 t = goes x (t.drop k) ∧ Below w.heap.size w wr) (fun _ i _ => t.length - (intOf i).toNat)
    case atStart => exact ⟨0, 1, Nat.zero_le _, rfl, rfl, by omega, by omega, rfl, Below.refl _ _⟩
    case round =>
      obtain ⟨k, x, hk, rfl, rfl, hx0, hx1, hg, hB⟩ := hrel
      have H : Hid (goes 1 t = goes x (t.drop k)) := hg
      clear hg
      by_cases hlt : k < t.length
      · obtain ⟨c0, c1, c2⟩ := (hA.below hB) k hlt
        have hs := hF.get k hlt
        obtain ⟨c, hc⟩ : ∃ c, c = t[k] := ⟨_, rfl⟩
        rw [← hc] at c0 c1 c2 hs
        have HC : Hid (c = t[k]) := hc
        clear hc
        by_cases hx : x = 0
        · have hxb : (x == 0) = true := by simpa using hx
          go_wp2
          go_ret
          refine ⟨ret_bool ?_, hB.alloc hB.size _⟩
          rw [trm_of h40 H.out, hx, goes_zero hlt]
        · have hxb : (x == 0) = false := by simpa using hx
          cases ho : okC c with
          | false =>
            go_wp2_with fail
            refine (cellOk_any c _ hs).mono ?_
            rintro e w1 ⟨rfl, hb1⟩
            go_wp2
            go_ret
            refine ⟨ret_bool ?_, (hB.alloc hB.size _).trans (hb1.mono (by have := hB.size; simp; omega))⟩
            rw [trm_of h40 H.out, goes_bad hlt x (by rw [← HC.out]; exact ho)]
          | true =>
            have hari := ari_ok ho
            go_wp2_with fail
            refine (cellOk_any c _ hs).mono ?_
            rintro e w1 ⟨rfl, hb1⟩
            have hq0 := hb1.cell (p := ⟨wr.heap.size, 0, none⟩) (by simp)
            have hq1 := hb1.cell (p := ⟨wr.heap.size, 1, none⟩) (by simp)
            have hq2 := hb1.cell (p := ⟨wr.heap.size, 2, none⟩) (by simp)
            go_wp2_with fail
            refine (cellArity_any c _).mono ?_
            rintro e w2 ⟨rfl, hb2⟩
            clear hq0 hq1 hq2 c0 c1 c2
            go_wp2
            go_roundw
            case rel =>
              refine ⟨k + 1, x + (ari c - 1), by omega, by go_num, by go_num, by omega, by omega, ?_, ((hB.alloc hB.size _).trans (hb1.mono (by have := hB.size; simp; omega))).trans (hb2.mono (by have := hB.size; have := hb1.size; simp at this; omega))⟩
              rw [H.out, goes_step hlt x hx (by rw [← HC.out]; exact ho), HC.out]
            case measure => simp [intOf]; omega
      · go_wp2
        go_ret
        refine ⟨ret_bool ?_, hB⟩
        rw [trm_of h40 H.out, goes_end hlt]
        rfl
  · go_enter Try.func137, Try.ntmps137
    go_wp2
    go_ret
    exact ⟨ret_bool (trm_long h40).symm, Below.refl _ _⟩

set_option maxHeartbeats 400000 in
theorem TrmOk_none (ao : Option Addr) (cap : Nat) (w : World) :
    Calls Try.prog 137 #[.slice ao 0 cap] w fun e w' => e = .returned (.bool false) ∧ Below w.heap.size w w' := by
  go_enter Try.func137, Try.ntmps137
  go_wp2
  refine wp_loop_rounds 1 ?_
  rw [rounds_succ]
  go_wp2
  go_ret
  exact ⟨rfl, Below.refl _ _⟩

/-- The program's TrmOk, of whatever places: whether they are a term. -/
theorem TrmOk_any (ao : Option Addr) (cap : Nat) (t : List C) (w : World) (hm : t.length ≤ maxLen) (hA : Row w ao t) (hF : Fit t) :
    Calls Try.prog 137 #[.slice ao t.length cap] w fun e w' => e = .returned (.bool (trm t)) ∧ Below w.heap.size w w' := by
  rcases hA with rfl | ⟨b, off, rfl, hA⟩
  · rw [trm_nil]; exact TrmOk_none ao cap w
  · exact TrmOk_some b off cap t w hm hA hF
end Go.Proofs.Ythgfhimhgeohcaa

/- The walks of the model's look at places: l1In, l1Name, l1Cell, l1End, TrmOk. -/
namespace Go.Proofs.Ythgfhimhgeohcaa
open Go.RowKit
set_option linter.unusedVariables false
set_option linter.unusedSimpArgs false

set_option maxHeartbeats 400000 in
theorem l1In_any (n lo hi : Int) (w : World) :
    Calls Try.prog 126 #[.int .i64 n, .int .i64 lo, .int .i64 hi] w fun e w' => e = .returned (.bool (decide (lo ≤ n ∧ n ≤ hi))) ∧ w' = w := by
  by_cases h1 : lo ≤ n
  · go_enter Try.func126, Try.ntmps126
    go_wp2
    go_ret
    exact ⟨ret_bool (by simp [h1]), rfl⟩
  · go_enter Try.func126, Try.ntmps126
    go_wp2
    go_ret
    exact ⟨ret_bool (by simp; omega), rfl⟩

theorem letters_no {s : ByteArray} {k : Nat} (h : k < s.size) (hb : small s[k].toNat = false) : letters s = false := by
  unfold letters
  rw [List.all_eq_false]
  exact ⟨s[k], by rw [show s[k] = s.data.toList[k]'(by simpa using h) from rfl]; exact List.getElem_mem _, by simp [hb]⟩

theorem letters_yes {s : ByteArray} (h : ∀ j : Nat, (h : j < s.size) → small s[j].toNat = true) : letters s = true := by
  unfold letters
  rw [List.all_eq_true]
  intro c hc
  obtain ⟨j, hj, rfl⟩ := List.mem_iff_getElem.1 hc
  exact h j (by simpa using hj)

set_option maxHeartbeats 1000000 in
theorem l1Name_any (s : ByteArray) (w : World) (hs : s.size ≤ maxLen) :
    Calls Try.prog 125 #[.string s] w fun e w' => e = .returned (.bool (nameB s)) ∧ w' = w := by
  unfold maxLen at hs
  by_cases h1 : s.size = 0
  · have hz : ((s.size : Int) == 0) = true := by simp only [beq_iff_eq]; omega
    go_enter Try.func125, Try.ntmps125
    go_wp2
    go_ret
    exact ⟨ret_bool (by unfold nameB; rw [h1]; rfl), rfl⟩
  · have hz : ((s.size : Int) == 0) = false := by rw [beq_eq_false_iff_ne]; omega
    by_cases h2 : s.size ≤ 8
    · have hnb : nameB s = letters s := by unfold nameB; simp only [h2, decide_true, Bool.and_true, Bool.true_and, show 1 ≤ s.size by omega]
      have HN : Hid (nameB s = letters s) := hnb
      clear hnb
      go_enter Try.func125, Try.ntmps125
      go_wp2
      go_loop [3] (fun i => ∃ k : Nat, k ≤ s.size ∧ i = .int .i64 k ∧ ∀ j : Nat, (h : j < s.size) → j < k → small s[j].toNat = true) (fun i => s.size - (intOf i).toNat)
      case atStart => exact ⟨0, Nat.zero_le _, rfl, fun j _ h => absurd h (Nat.not_lt_zero _)⟩
      case round =>
        obtain ⟨k, hk, rfl, hall⟩ := hrel
        have H : Hid (∀ j : Nat, (h : j < s.size) → j < k → small s[j].toNat = true) := hall
        clear hall
        by_cases hlt : k < s.size
        · by_cases ha : 97 ≤ (s[k].toNat : Int)
          · by_cases hz : (s[k].toNat : Int) ≤ 122
            · go_wp2
              go_round
              case rel =>
                refine ⟨k + 1, by omega, by go_num, fun j hj hjk => ?_⟩
                by_cases e : j = k
                · subst e; exact small_yes ha hz
                · exact H.out j hj (by omega)
              case measure => simp [intOf]; omega
            · go_wp2
              go_ret
              exact ⟨ret_bool (by rw [HN.out, letters_no hlt (small_no (.inr (by omega)))]), rfl⟩
          · go_wp2
            go_ret
            exact ⟨ret_bool (by rw [HN.out, letters_no hlt (small_no (.inl (by omega)))]), rfl⟩
        · go_wp2
          go_ret
          exact ⟨ret_bool (by rw [HN.out, letters_yes (fun j hj => H.out j hj (by omega))]), rfl⟩
    · go_enter Try.func125, Try.ntmps125
      go_wp2
      go_ret
      exact ⟨ret_bool (by simp [nameB, h2]), rfl⟩

set_option maxHeartbeats 1000000 in
theorem l1Cell_any (c : C) (w : World) (hs : c.s.size ≤ maxLen) :
    Calls Try.prog 135 #[.agg #[.int .i64 c.k, .int .i64 c.n, .string c.s]] w fun e w' => e = .returned (.bool (okC c)) ∧ Below w.heap.size w w' := by
  by_cases h1 : c.k = 1
  · have hb : (c.k == 1) = true := by simpa using h1
    have H : Hid (okC c = true ↔ 0 ≤ c.n ∧ c.n ≤ 99999 ∧ c.s.size = 0) := okC1 h1
    clear h1
    by_cases hn : 0 ≤ c.n ∧ c.n ≤ 99999
    · have hd : decide (0 ≤ c.n ∧ c.n ≤ 99999) = true := by simpa using hn
      by_cases he : 1 ≤ c.s.size
      · have hz := empty_no he
        go_enter Try.func135, Try.ntmps135
        go_wp2_with (go_at_call 126; refine (l1In_any _ _ _ _).mono ?_; rw [hd]; rintro e w' ⟨rfl, rfl⟩)
        go_ret
        exact ⟨ret_bool (iff_no H.out (by omega)), cell_below _ _⟩
      · have hz := empty_yes he
        go_enter Try.func135, Try.ntmps135
        go_wp2_with (go_at_call 126; refine (l1In_any _ _ _ _).mono ?_; rw [hd]; rintro e w' ⟨rfl, rfl⟩)
        go_ret
        exact ⟨ret_bool (H.out.2 (by omega)).symm, cell_below _ _⟩
    · have hd : decide (0 ≤ c.n ∧ c.n ≤ 99999) = false := by simpa using hn
      have HN : Hid (¬ (0 ≤ c.n ∧ c.n ≤ 99999)) := hn
      clear hn
      go_enter Try.func135, Try.ntmps135
      go_wp2_with (go_at_call 126; refine (l1In_any _ _ _ _).mono ?_; rw [hd]; rintro e w' ⟨rfl, rfl⟩)
      go_ret
      exact ⟨ret_bool (iff_no H.out (fun h => HN.out ⟨h.1, h.2.1⟩)), cell_below _ _⟩
  · have hb : (c.k == 1) = false := by simpa using h1
    by_cases h2 : c.k = 2
    · have hb2 : (c.k == 2) = true := by simpa using h2
      have H : Hid (okC c = true ↔ -9999 ≤ c.n ∧ c.n ≤ 9999 ∧ c.s.size = 0) := okC2 h2
      clear h1 h2
      by_cases hn : -9999 ≤ c.n ∧ c.n ≤ 9999
      · have hd : decide (-9999 ≤ c.n ∧ c.n ≤ 9999) = true := by simpa using hn
        by_cases he : 1 ≤ c.s.size
        · have hz := empty_no he
          go_enter Try.func135, Try.ntmps135
          go_wp2_with (go_at_call 126; refine (l1In_any _ _ _ _).mono ?_; rw [hd]; rintro e w' ⟨rfl, rfl⟩)
          go_ret
          exact ⟨ret_bool (iff_no H.out (by omega)), cell_below _ _⟩
        · have hz := empty_yes he
          go_enter Try.func135, Try.ntmps135
          go_wp2_with (go_at_call 126; refine (l1In_any _ _ _ _).mono ?_; rw [hd]; rintro e w' ⟨rfl, rfl⟩)
          go_ret
          exact ⟨ret_bool (H.out.2 (by omega)).symm, cell_below _ _⟩
      · have hd : decide (-9999 ≤ c.n ∧ c.n ≤ 9999) = false := by simpa using hn
        have HN : Hid (¬ (-9999 ≤ c.n ∧ c.n ≤ 9999)) := hn
        clear hn
        go_enter Try.func135, Try.ntmps135
        go_wp2_with (go_at_call 126; refine (l1In_any _ _ _ _).mono ?_; rw [hd]; rintro e w' ⟨rfl, rfl⟩)
        go_ret
        exact ⟨ret_bool (iff_no H.out (fun h => HN.out ⟨h.1, h.2.1⟩)), cell_below _ _⟩
    · have hb2 : (c.k == 2) = false := by simpa using h2
      by_cases h3 : c.k = 3
      · have hb3 : (c.k == 3) = true := by simpa using h3
        have H : Hid (okC c = true ↔ 0 ≤ c.n ∧ c.n ≤ 3 ∧ nameB c.s = true) := okC3 h3
        clear h1 h2 h3
        by_cases hn : 0 ≤ c.n ∧ c.n ≤ 3
        · have hd : decide (0 ≤ c.n ∧ c.n ≤ 3) = true := by simpa using hn
          have HO : Hid (nameB c.s = okC c) := by show _ = _; rw [Bool.eq_iff_iff, H.out]; exact ⟨fun h => ⟨hn.1, hn.2, h⟩, fun h => h.2.2⟩
          go_enter Try.func135, Try.ntmps135
          go_wp2_with (first | (go_at_call 126; refine (l1In_any _ _ _ _).mono ?_; rw [hd]; rintro e w' ⟨rfl, rfl⟩) | (go_at_call 125; refine (l1Name_any _ _ hs).mono ?_; rintro e w' ⟨rfl, rfl⟩))
          go_ret
          exact ⟨ret_bool HO.out, cell_below _ _⟩
        · have hd : decide (0 ≤ c.n ∧ c.n ≤ 3) = false := by simpa using hn
          have HN : Hid (¬ (0 ≤ c.n ∧ c.n ≤ 3)) := hn
          clear hn
          go_enter Try.func135, Try.ntmps135
          go_wp2_with (go_at_call 126; refine (l1In_any _ _ _ _).mono ?_; rw [hd]; rintro e w' ⟨rfl, rfl⟩)
          go_ret
          exact ⟨ret_bool (iff_no H.out (fun h => HN.out ⟨h.1, h.2.1⟩)), cell_below _ _⟩
      · have hb3 : (c.k == 3) = false := by simpa using h3
        have H : Hid (okC c = false) := okC4 h1 h2 h3
        clear h1 h2 h3
        go_enter Try.func135, Try.ntmps135
        go_wp2
        go_ret
        exact ⟨ret_bool (by rw [H.out]), cell_below _ _⟩
end Go.Proofs.Ythgfhimhgeohcaa
