import Derived.Test.YtkedckmpjedjoaaQW15W16W2
import Derived.Test.YtkedckmpjedjoaaQW5
/- The walks of the model's look at places: l1In, l1Name, l1Cell, l1End, TrmOk. -/
namespace Go.Proofs.Ytkedckmpjedjoaa
open Go.RowKit
set_option linter.unusedVariables false
set_option linter.unusedSimpArgs false

set_option maxHeartbeats 400000 in
theorem l1In_any (n lo hi : Int) (w : World) :
    Calls Try.prog 143 #[.int .i64 n, .int .i64 lo, .int .i64 hi] w fun e w' => e = .returned (.bool (decide (lo ≤ n ∧ n ≤ hi))) ∧ w' = w := by
  by_cases h1 : lo ≤ n
  · go_enter Try.func143, Try.ntmps143
    go_wp2
    go_ret
    exact ⟨ret_bool (by simp [h1]), rfl⟩
  · go_enter Try.func143, Try.ntmps143
    go_wp2
    go_ret
    exact ⟨ret_bool (by simp; omega), rfl⟩

theorem letters_no {s : ByteArray} {k : Nat} (h : k < s.size) (hb : small s[k].toNat = false) : letters s = false := by
  unfold letters
  rw [List.all_eq_false]
  exact ⟨s[k], by rw [show s[k] = s.data.toList[k]'(by simpa using h) from rfl]; exact List.getElem_mem _, by simp [hb]⟩

theorem letters_yes {s : ByteArray} (h : ∀ j : Nat, (h : j < s.size) → small s[j].toNat = true) : letters s = true := by
  unfold letters
  rw [List.all_eq_true]
  intro c hc
  obtain ⟨j, hj, rfl⟩ := List.mem_iff_getElem.1 hc
  exact h j (by simpa using hj)

set_option maxHeartbeats 1000000 in
theorem l1Name_any (s : ByteArray) (w : World) (hs : s.size ≤ maxLen) :
    Calls Try.prog 142 #[.string s] w fun e w' => e = .returned (.bool (nameB s)) ∧ w' = w := by
  unfold maxLen at hs
  by_cases h1 : s.size = 0
  · have hz : ((s.size : Int) == 0) = true := by simp only [beq_iff_eq]; omega
    go_enter Try.func142, Try.ntmps142
    go_wp2
    go_ret
    exact ⟨ret_bool (by unfold nameB; rw [h1]; rfl), rfl⟩
  · have hz : ((s.size : Int) == 0) = false := by rw [beq_eq_false_iff_ne]; omega
    by_cases h2 : s.size ≤ 8
    · have hnb : nameB s = letters s := by unfold nameB; simp only [h2, decide_true, Bool.and_true, Bool.true_and, show 1 ≤ s.size by omega]
      have HN : Hid (nameB s = letters s) := hnb
      clear hnb
      go_enter Try.func142, Try.ntmps142
      go_wp2
      go_loop [3] (fun i => ∃ k : Nat, k ≤ s.size ∧ i = .int .i64 k ∧ ∀ j : Nat, (h : j < s.size) → j < k → small s[j].toNat = true) (fun i => s.size - (intOf i).toNat)
      case atStart => exact ⟨0, Nat.zero_le _, rfl, fun j _ h => absurd h (Nat.not_lt_zero _)⟩
      case round =>
        obtain ⟨k, hk, rfl, hall⟩ := hrel
        have H : Hid (∀ j : Nat, (h : j < s.size) → j < k → small s[j].toNat = true) := hall
        clear hall
        by_cases hlt : k < s.size
        · by_cases ha : 97 ≤ (s[k].toNat : Int)
          · by_cases hz : (s[k].toNat : Int) ≤ 122
            · go_wp2
              go_round
              case rel =>
                refine ⟨k + 1, by omega, by go_num, fun j hj hjk => ?_⟩
                by_cases e : j = k
                · subst e; exact small_yes ha hz
                · exact H.out j hj (by omega)
              case measure => simp [intOf]; omega
            · go_wp2
              go_ret
              exact ⟨ret_bool (by rw [HN.out, letters_no hlt (small_no (.inr (by omega)))]), rfl⟩
          · go_wp2
            go_ret
            exact ⟨ret_bool (by rw [HN.out, letters_no hlt (small_no (.inl (by omega)))]), rfl⟩
        · go_wp2
          go_ret
          exact ⟨ret_bool (by rw [HN.out, letters_yes (fun j hj => H.out j hj (by omega))]), rfl⟩
    · go_enter Try.func142, Try.ntmps142
      go_wp2
      go_ret
      exact ⟨ret_bool (by simp [nameB, h2]), rfl⟩

set_option maxHeartbeats 1000000 in
theorem l1Cell_any (c : C) (w : World) (hs : c.s.size ≤ maxLen) :
    Calls Try.prog 151 #[.agg #[.int .i64 c.k, .int .i64 c.n, .string c.s]] w fun e w' => e = .returned (.bool (okC c)) ∧ Below w.heap.size w w' := by
  by_cases h1 : c.k = 1
  · have hb : (c.k == 1) = true := by simpa using h1
    have H : Hid (okC c = true ↔ 0 ≤ c.n ∧ c.n ≤ 99999 ∧ c.s.size = 0) := okC1 h1
    clear h1
    by_cases hn : 0 ≤ c.n ∧ c.n ≤ 99999
    · have hd : decide (0 ≤ c.n ∧ c.n ≤ 99999) = true := by simpa using hn
      by_cases he : 1 ≤ c.s.size
      · have hz := empty_no he
        go_enter Try.func151, Try.ntmps151
        go_wp2_with (go_at_call 143; refine (l1In_any _ _ _ _).mono ?_; rw [hd]; rintro e w' ⟨rfl, rfl⟩)
        go_ret
        exact ⟨ret_bool (iff_no H.out (by omega)), cell_below _ _⟩
      · have hz := empty_yes he
        go_enter Try.func151, Try.ntmps151
        go_wp2_with (go_at_call 143; refine (l1In_any _ _ _ _).mono ?_; rw [hd]; rintro e w' ⟨rfl, rfl⟩)
        go_ret
        exact ⟨ret_bool (H.out.2 (by omega)).symm, cell_below _ _⟩
    · have hd : decide (0 ≤ c.n ∧ c.n ≤ 99999) = false := by simpa using hn
      have HN : Hid (¬ (0 ≤ c.n ∧ c.n ≤ 99999)) := hn
      clear hn
      go_enter Try.func151, Try.ntmps151
      go_wp2_with (go_at_call 143; refine (l1In_any _ _ _ _).mono ?_; rw [hd]; rintro e w' ⟨rfl, rfl⟩)
      go_ret
      exact ⟨ret_bool (iff_no H.out (fun h => HN.out ⟨h.1, h.2.1⟩)), cell_below _ _⟩
  · have hb : (c.k == 1) = false := by simpa using h1
    by_cases h2 : c.k = 2
    · have hb2 : (c.k == 2) = true := by simpa using h2
      have H : Hid (okC c = true ↔ -9999 ≤ c.n ∧ c.n ≤ 9999 ∧ c.s.size = 0) := okC2 h2
      clear h1 h2
      by_cases hn : -9999 ≤ c.n ∧ c.n ≤ 9999
      · have hd : decide (-9999 ≤ c.n ∧ c.n ≤ 9999) = true := by simpa using hn
        by_cases he : 1 ≤ c.s.size
        · have hz := empty_no he
          go_enter Try.func151, Try.ntmps151
          go_wp2_with (go_at_call 143; refine (l1In_any _ _ _ _).mono ?_; rw [hd]; rintro e w' ⟨rfl, rfl⟩)
          go_ret
          exact ⟨ret_bool (iff_no H.out (by omega)), cell_below _ _⟩
        · have hz := empty_yes he
          go_enter Try.func151, Try.ntmps151
          go_wp2_with (go_at_call 143; refine (l1In_any _ _ _ _).mono ?_; rw [hd]; rintro e w' ⟨rfl, rfl⟩)
          go_ret
          exact ⟨ret_bool (H.out.2 (by omega)).symm, cell_below _ _⟩
      · have hd : decide (-9999 ≤ c.n ∧ c.n ≤ 9999) = false := by simpa using hn
        have HN : Hid (¬ (-9999 ≤ c.n ∧ c.n ≤ 9999)) := hn
        clear hn
        go_enter Try.func151, Try.ntmps151
        go_wp2_with (go_at_call 143; refine (l1In_any _ _ _ _).mono ?_; rw [hd]; rintro e w' ⟨rfl, rfl⟩)
        go_ret
        exact ⟨ret_bool (iff_no H.out (fun h => HN.out ⟨h.1, h.2.1⟩)), cell_below _ _⟩
    · have hb2 : (c.k == 2) = false := by simpa using h2
      by_cases h3 : c.k = 3
      · have hb3 : (c.k == 3) = true := by simpa using h3
        have H : Hid (okC c = true ↔ 0 ≤ c.n ∧ c.n ≤ 3 ∧ nameB c.s = true) := okC3 h3
        clear h1 h2 h3
        by_cases hn : 0 ≤ c.n ∧ c.n ≤ 3
        · have hd : decide (0 ≤ c.n ∧ c.n ≤ 3) = true := by simpa using hn
          have HO : Hid (nameB c.s = okC c) := by show _ = _; rw [Bool.eq_iff_iff, H.out]; exact ⟨fun h => ⟨hn.1, hn.2, h⟩, fun h => h.2.2⟩
          go_enter Try.func151, Try.ntmps151
          go_wp2_with (first | (go_at_call 143; refine (l1In_any _ _ _ _).mono ?_; rw [hd]; rintro e w' ⟨rfl, rfl⟩) | (go_at_call 142; refine (l1Name_any _ _ hs).mono ?_; rintro e w' ⟨rfl, rfl⟩))
          go_ret
          exact ⟨ret_bool HO.out, cell_below _ _⟩
        · have hd : decide (0 ≤ c.n ∧ c.n ≤ 3) = false := by simpa using hn
          have HN : Hid (¬ (0 ≤ c.n ∧ c.n ≤ 3)) := hn
          clear hn
          go_enter Try.func151, Try.ntmps151
          go_wp2_with (go_at_call 143; refine (l1In_any _ _ _ _).mono ?_; rw [hd]; rintro e w' ⟨rfl, rfl⟩)
          go_ret
          exact ⟨ret_bool (iff_no H.out (fun h => HN.out ⟨h.1, h.2.1⟩)), cell_below _ _⟩
      · have hb3 : (c.k == 3) = false := by simpa using h3
        have H : Hid (okC c = false) := okC4 h1 h2 h3
        clear h1 h2 h3
        go_enter Try.func151, Try.ntmps151
        go_wp2
        go_ret
        exact ⟨ret_bool (by rw [H.out]), cell_below _ _⟩
end Go.Proofs.Ytkedckmpjedjoaa

/- The walks of the model's l1End and TrmOk. -/
namespace Go.Proofs.Ytkedckmpjedjoaa
open Go.RowKit
set_option linter.unusedVariables false
set_option linter.unusedSimpArgs false

/-- Where the term that begins at a place ends; -1, if it does not. -/
def endV (t : List C) (p : Nat) : Int := match ends 1 (t.drop p) with
  | some e => (p : Int) + e
  | none => -1

theorem ends_step {t : List C} {j : Nat} (h : j < t.length) (m : Int) (hm : 0 < m) : ends m (t.drop j) = (ends (m - 1 + ari t[j]) (t.drop (j + 1))).map (· + 1) := by
  rw [List.drop_eq_getElem_cons h]; simp [ends]; omega
theorem ends_zero {t : List C} {j : Nat} (m : Int) (hm : m ≤ 0) : ends m (t.drop j) = some 0 := by
  cases t.drop j <;> simp [ends, hm]
theorem ends_none {t : List C} {j : Nat} (h : ¬ j < t.length) (m : Int) (hm : 0 < m) : ends m (t.drop j) = none := by
  rw [List.drop_eq_nil_iff.2 (by omega)]; simp [ends]; omega

theorem endV_step {t : List C} {p j : Nat} (hpj : p ≤ j) (h : j < t.length) (m : Int) (hm : 0 < m) (hg : ends 1 (t.drop p) = (ends m (t.drop j)).map (· + (j - p))) :
    ends 1 (t.drop p) = (ends (m - 1 + ari t[j]) (t.drop (j + 1))).map (· + (j + 1 - p)) := by
  rw [hg, ends_step h m hm, Option.map_map]
  congr 1
  funext x
  simp; omega

theorem endV_end {t : List C} {p j : Nat} (hpj : p ≤ j) (m : Int) (hm : m ≤ 0) (hg : ends 1 (t.drop p) = (ends m (t.drop j)).map (· + (j - p))) : endV t p = j := by
  unfold endV
  rw [hg, ends_zero m hm]
  simp; omega

theorem endV_none {t : List C} {p j : Nat} (h : ¬ j < t.length) (m : Int) (hm : 0 < m) (hg : ends 1 (t.drop p) = (ends m (t.drop j)).map (· + (j - p))) : endV t p = -1 := by
  unfold endV
  rw [hg, ends_none h m hm]
  rfl

set_option maxHeartbeats 1000000 in
theorem l1End_some (b off cap p : Nat) (t : List C) (w : World) (hm : t.length ≤ 40) (hp : p ≤ t.length) (hA : At w b off t) (hok : ∀ c ∈ t, okC c = true) :
    Calls Try.prog 152 #[.slice (some ⟨b, off, none⟩) t.length cap, .int .i64 p] w fun e w' => e = .returned (.int .i64 (endV t p)) ∧ w' = w := by
  have HO := hide hok
  clear hok
  go_enter Try.func152, Try.ntmps152
  go_wp2
  go_loop [5, 6] (fun o i => ∃ (j : Nat) (m : Int), p ≤ j ∧ j ≤ t.length ∧ i = .int .i64 j ∧ o = .int .i64 m ∧ 0 ≤ m ∧ m ≤ 1 + 3 * j ∧ ends 1 (t.drop p) = (ends m (t.drop j)).map (· + (j - p))) (fun _ i => t.length - (intOf i).toNat)
  case atStart => exact ⟨p, 1, Nat.le_refl _, hp, rfl, rfl, by omega, by omega, by simp⟩
  case round =>
    obtain ⟨j, m, hpj, hj, rfl, rfl, hm0, hm1, hg⟩ := hrel
    have H := hide hg
    clear hg
    by_cases hmp : 0 < m
    · by_cases hlt : j < t.length
      · obtain ⟨c0, c1, c2⟩ := hA j hlt
        have hari := ari_ok (unhide HO _ (List.getElem_mem hlt))
        obtain ⟨c, hc⟩ : ∃ c, c = t[j] := ⟨_, rfl⟩
        rw [← hc] at c0 c1 c2 hari
        have HC := hide hc
        clear hc
        by_cases h3 : c.k = 3
        · have hb : (c.k == 3) = true := by simpa using h3
          have ha : ari c = c.n := by simp [ari, h3]
          rw [ha] at hari
          have HA := hide ha
          clear ha h3
          go_wp2
          go_round
          case rel => exact ⟨j + 1, m - 1 + c.n, by omega, by omega, by go_num, by go_num, by omega, by omega, by rw [← unhide HA, unhide HC]; exact endV_step hpj hlt m hmp (unhide H)⟩
          case measure => simp [intOf]; omega
        · have hb : (c.k == 3) = false := by simpa using h3
          have ha : ari c = 0 := by simp [ari, h3]
          have HA := hide ha
          clear ha h3 hari
          go_wp2
          go_round
          case rel => exact ⟨j + 1, m - 1, by omega, by omega, by go_num, by go_num, by omega, by omega, by have := endV_step hpj hlt m hmp (unhide H); rw [← unhide HC, unhide HA, Int.add_zero] at this; exact this⟩
          case measure => simp [intOf]; omega
      · go_wp2
        go_ret
        exact ⟨ret_int (by rw [endV_none hlt m hmp (unhide H)]), rfl⟩
    · go_wp2
      go_ret
      exact ⟨ret_int (by rw [endV_end hpj m (by omega) (unhide H)]), rfl⟩

theorem endV_whole {t : List C} (h1 : 1 ≤ t.length) : endV t 0 = t.length ↔ ends 1 t = some t.length := by
  unfold endV
  rw [List.drop_zero]
  cases ends 1 t with
  | none => simp
  | some e => simp; omega

set_option maxHeartbeats 1000000 in
theorem specTrmOk_some (b off cap : Nat) (t : List C) (w : World) (hm : t.length ≤ maxLen) (hA : At w b off t) (hF : Fit t) :
    Calls Try.prog 112 #[.slice (some ⟨b, off, none⟩) t.length cap] w fun e w' => e = .returned (.bool (trm t)) ∧ Below w.heap.size w w' := by
  unfold maxLen at hm
  have HT := hide (trm_iff t)
  by_cases h0 : t.length = 0
  · have hz : ((t.length : Int) == 0) = true := by simp only [beq_iff_eq]; omega
    go_enter Try.func112, Try.ntmps112
    go_wp2
    go_ret
    exact ⟨ret_bool (iff_no (unhide HT) (by omega)), Below.refl _ _⟩
  · have hz : ((t.length : Int) == 0) = false := by rw [beq_eq_false_iff_ne]; omega
    by_cases h40 : t.length ≤ 40
    · go_enter Try.func112, Try.ntmps112
      go_wp2
      go_loopw [3] (fun i wr => ∃ (k : Nat), k ≤ t.length ∧ i = .int .i64 k ∧ (∀ j, (h : j < t.length) → j < k → okC t[j] = true) ∧ Below w.heap.size w wr) (fun i _ => t.length - (intOf i).toNat)
      case atStart => exact ⟨0, Nat.zero_le _, rfl, fun j _ h => absurd h (Nat.not_lt_zero _), Below.refl _ _⟩
      case round =>
        obtain ⟨k, hk, rfl, hg, hB⟩ := hrel
        have H := hide hg
        clear hg
        have hA' := hA.below hB
        by_cases hlt : k < t.length
        · obtain ⟨c0, c1, c2⟩ := hA' k hlt
          have hs := hF.get k hlt
          obtain ⟨c, hc⟩ : ∃ c, c = t[k] := ⟨_, rfl⟩
          rw [← hc] at c0 c1 c2 hs
          have HC := hide hc
          clear hc
          cases ho : okC c with
          | false =>
            go_wp2_with fail
            refine (l1Cell_any c _ hs).mono ?_
            rintro e w1 ⟨rfl, hb1⟩
            go_wp2
            go_ret
            refine ⟨ret_bool (iff_no (unhide HT) (fun h => ?_)), bstep hB hb1⟩
            have := h.2.2.1 _ (List.getElem_mem hlt)
            rw [← unhide HC, ho] at this
            cases this
          | true =>
            go_wp2_with fail
            refine (l1Cell_any c _ hs).mono ?_
            rintro e w1 ⟨rfl, hb1⟩
            clear c0 c1 c2
            go_wp2
            go_roundw
            case rel =>
              refine ⟨k + 1, by omega, by go_num, fun j hj hjk => ?_, bstep hB hb1⟩
              by_cases e : j = k
              · subst e; rw [← unhide HC]; exact ho
              · exact unhide H j hj (by omega)
            case measure => simp [intOf]; omega
        · have hall : ∀ c ∈ t, okC c = true := fun c hc => by
            obtain ⟨j, hj, rfl⟩ := List.mem_iff_getElem.1 hc
            exact unhide H j hj (by omega)
          have HALL := hide hall
          clear hall
          go_wp2_with fail
          refine (l1End_some b off cap 0 t _ h40 (Nat.zero_le _) hA' (unhide HALL)).mono ?_
          rintro e w1 ⟨rfl, rfl⟩
          go_wp2
          go_ret
          refine ⟨ret_bool ?_, hB⟩
          rw [Bool.eq_iff_iff, unhide HT, ← endV_whole (by omega)]
          simp only [beq_iff_eq]
          exact ⟨fun h => ⟨by omega, h40, unhide HALL, h⟩, fun h => h.2.2.2⟩
    · go_enter Try.func112, Try.ntmps112
      go_wp2
      go_ret
      exact ⟨ret_bool (iff_no (unhide HT) (by omega)), Below.refl _ _⟩

set_option maxHeartbeats 400000 in
theorem specTrmOk_none (ao : Option Addr) (cap : Nat) (w : World) :
    Calls Try.prog 112 #[.slice ao 0 cap] w fun e w' => e = .returned (.bool false) ∧ Below w.heap.size w w' := by
  go_enter Try.func112, Try.ntmps112
  go_wp2
  go_ret
  exact ⟨rfl, Below.refl _ _⟩

/-- The model's TrmOk, of whatever places: whether they are a term. -/
theorem specTrmOk_any (ao : Option Addr) (cap : Nat) (t : List C) (w : World) (hm : t.length ≤ maxLen) (hA : Row w ao t) (hF : Fit t) :
    Calls Try.prog 112 #[.slice ao t.length cap] w fun e w' => e = .returned (.bool (trm t)) ∧ Below w.heap.size w w' := by
  rcases hA with rfl | ⟨b, off, rfl, hA⟩
  · rw [trm_nil]; exact specTrmOk_none ao cap w
  · exact specTrmOk_some b off cap t w hm hA hF
end Go.Proofs.Ytkedckmpjedjoaa

/- eqTrmCellS of whatever places; the walk of the law FnExactTrmOk. -/
namespace Go.Proofs.Ytkedckmpjedjoaa
open Go.RowKit
set_option linter.unusedVariables false
set_option linter.unusedSimpArgs false

set_option maxHeartbeats 400000 in
theorem eqTrmCellS_far (ao bo : Option Addr) (n m cap cap' : Nat) (w : World) (hl : n ≠ m) :
    Calls Try.prog 21 #[.slice ao n cap, .slice bo m cap'] w fun e w' => e = .returned (.bool false) ∧ Below w.heap.size w w' := by
  have hne : ((n : Int) != (m : Int)) = true := by rw [bne_iff_ne]; omega
  go_enter Try.func21, Try.ntmps21
  go_wp2
  go_ret
  exact ⟨rfl, Below.refl _ _⟩

set_option maxHeartbeats 400000 in
theorem eqTrmCellS_none (ao bo : Option Addr) (cap cap' : Nat) (w : World) :
    Calls Try.prog 21 #[.slice ao 0 cap, .slice bo 0 cap'] w fun e w' => e = .returned (.bool true) ∧ Below w.heap.size w w' := by
  go_enter Try.func21, Try.ntmps21
  go_wp2
  refine wp_loop_rounds 1 ?_
  rw [rounds_succ]
  go_wp2
  go_ret
  exact ⟨rfl, Below.refl _ _⟩

/-- Whether two lists of places are the same. -/
theorem eqTrmCellS_any (ao bo : Option Addr) (cap cap' : Nat) (t u : List C) (w : World) (hm : t.length ≤ maxLen) (hA : Row w ao t) (hU : Row w bo u) :
    Calls Try.prog 21 #[.slice ao t.length cap, .slice bo u.length cap'] w fun e w' => e = .returned (.bool (sameS t u)) ∧ Below w.heap.size w w' := by
  by_cases hl : t.length = u.length
  · rcases hA with rfl | ⟨b, off, rfl, hA⟩
    · have hu : u = [] := List.length_eq_zero_iff.1 hl.symm
      subst hu
      exact eqTrmCellS_none ao bo cap cap' w
    · rcases hU with rfl | ⟨b', off', rfl, hU⟩
      · have ht : t = [] := List.length_eq_zero_iff.1 hl
        subst ht
        exact eqTrmCellS_none _ bo cap cap' w
      · exact eqTrmCellS_some b off cap b' off' cap' t u w hm hA hU hl
  · rw [sameS_no (fun h => hl (by rw [h]))]
    exact eqTrmCellS_far ao bo _ _ cap cap' w hl

theorem row_of_own {w : World} {base e g cap : Nat} {t : List C} (h : w.ownsRow base e 3 (.slice (some ⟨g, 0, none⟩) t.length cap) t.length (flat t)) : Row w (some ⟨g, 0, none⟩) t :=
  .inr ⟨g, 0, rfl, owns_at h rfl⟩

end Go.Proofs.Ytkedckmpjedjoaa
