import Derived.Test.YtejlmelebfdpeaaChecked
import Derived.Test.YtejlmelebfdpeaaQPlainMemMem2Mem3
import Derived.WalkKit
import Derived.WalkLawsBesides
import Derived.Outline
/- The walks of the program's own look at places: isSmall, countWhile, nameOk, cellOk, cellArity. -/
namespace Go.Proofs.Ytejlmelebfdpeaa
open Go.RowKit
set_option linter.unusedVariables false
set_option linter.unusedSimpArgs false

theorem ret_int {k : IntKind} {a b : Int} (h : a = b) : Ending.returned (.int k a) = .returned (.int k b) := by rw [h]
theorem ret_bool {a b : Bool} (h : a = b) : Ending.returned (.bool a) = .returned (.bool b) := by rw [h]

set_option maxHeartbeats 400000 in
theorem isSmall_any (c : Int) (w : World) :
    Calls Try.prog 140 #[.int .u8 c] w fun e w' => e = .returned (.bool (small c)) ∧ w' = w := by
  by_cases h1 : 97 ≤ c
  · by_cases h2 : c ≤ 122
    · go_enter Try.func140, Try.ntmps140
      go_wp2
      go_ret
      exact ⟨by simp [small, h1, h2], rfl⟩
    · go_enter Try.func140, Try.ntmps140
      go_wp2
      go_ret
      exact ⟨by simp [small]; omega, rfl⟩
  · go_enter Try.func140, Try.ntmps140
    go_wp2
    go_ret
    exact ⟨by simp [small]; omega, rfl⟩

set_option maxHeartbeats 400000 in
theorem countWhile_any (s : ByteArray) (w : World) (hs : s.size ≤ maxLen) :
    Calls Try.prog 139 #[.string s, .func (.func 140) #[] #[]] w fun e w' => e = .returned (.int .i64 (cnt s.data.toList)) ∧ w' = w := by
  unfold maxLen at hs
  have hsz : s.data.toList.length = s.size := by simp
  go_enter Try.func139, Try.ntmps139
  go_wp2
  go_loop [5] (fun i => ∃ k : Nat, k ≤ s.size ∧ i = .int .i64 k ∧ ∀ j : Nat, (h : j < s.size) → j < k → small s[j].toNat = true) (fun i => s.size - (intOf i).toNat)
  case atStart => exact ⟨0, Nat.zero_le _, rfl, fun j _ h => absurd h (Nat.not_lt_zero _)⟩
  case round =>
    obtain ⟨k, hk, rfl, hall⟩ := hrel
    have H : Hid (∀ j : Nat, (h : j < s.size) → j < k → small s[j].toNat = true) := hall
    clear hall
    by_cases hlt : k < s.size
    · by_cases hb : small s[k].toNat = true
      · go_wp2_with (go_at_call 140; refine (isSmall_any _ _).mono ?_; rintro e w' ⟨rfl, rfl⟩)
        go_round
        case rel =>
          refine ⟨k + 1, by omega, by go_num, fun j hj hjk => ?_⟩
          by_cases e : j = k
          · subst e; exact hb
          · exact H.out j hj (by omega)
        case measure => simp [intOf]; omega
      · have hb' : small s[k].toNat = false := by simpa using hb
        clear hb
        go_wp2_with (go_at_call 140; refine (isSmall_any _ _).mono ?_; rintro e w' ⟨rfl, rfl⟩)
        go_ret
        exact ⟨ret_int (by rw [cnt_stop s.data.toList k (fun j hj hjk => H.out j (by simpa using hj) hjk) (by simpa using hlt) hb']), rfl⟩
    · go_wp2
      go_ret
      exact ⟨ret_int (by rw [cnt_all s.data.toList (fun j hj => H.out j (by simpa using hj) (by simp at hj; omega))]; simp; omega), rfl⟩

theorem nameB_eq (s : ByteArray) (h1 : 1 ≤ s.size) (h2 : s.size ≤ 8) : nameB s = decide (cnt s.data.toList = s.size) := by
  have := cnt_eq_iff s.data.toList
  simp only [nameB, letters, h1, h2, decide_true, Bool.true_and]
  rw [Bool.eq_iff_iff, ← this]
  simp

theorem empty_no {s : ByteArray} (h : 1 ≤ s.size) : s.toList.isEmpty = false := by
  have hsz : s.data.toList.length = s.size := by simp
  rw [ByteArray.toList_eq]
  cases e : s.data.toList with
  | nil => have : s.data.toList.length = 0 := by rw [e]; rfl
           rw [hsz] at this; omega
  | cons a r => rfl
theorem empty_yes {s : ByteArray} (h : ¬ 1 ≤ s.size) : s.toList.isEmpty = true := by
  have hsz : s.data.toList.length = s.size := by simp
  rw [ByteArray.toList_eq]
  have : s.data.toList.length = 0 := by omega
  rw [List.length_eq_zero_iff] at this
  rw [this]; rfl

set_option maxHeartbeats 400000 in
theorem nameOk_any (s : ByteArray) (w : World) (hs : s.size ≤ maxLen) :
    Calls Try.prog 131 #[.string s] w fun e w' => e = .returned (.bool (nameB s)) ∧ w' = w := by
  by_cases h1 : 1 ≤ s.size
  · have he := empty_no h1
    by_cases h2 : s.size ≤ 8
    · have hn := nameB_eq s h1 h2
      have H : Hid (nameB s = decide (cnt s.data.toList = s.size)) := hn
      clear hn
      go_enter Try.func131, Try.ntmps131
      go_wp2_with (go_at_call 139; refine (countWhile_any _ _ hs).mono ?_; rintro e w' ⟨rfl, rfl⟩)
      go_ret
      exact ⟨ret_bool (by rw [H.out, Bool.eq_iff_iff]; simp; omega), rfl⟩
    · go_enter Try.func131, Try.ntmps131
      go_wp2
      go_ret
      exact ⟨ret_bool (by simp [nameB]; omega), rfl⟩
  · have he := empty_yes h1
    go_enter Try.func131, Try.ntmps131
    go_wp2
    go_ret
    exact ⟨ret_bool (by simp [nameB]; omega), rfl⟩

set_option maxHeartbeats 400000 in
theorem cellArity_any (c : C) (w : World) :
    Calls Try.prog 116 #[.agg #[.int .i64 c.k, .int .i64 c.n, .string c.s]] w fun e w' => e = .returned (.int .i64 (ari c)) ∧ Below w.heap.size w w' := by
  by_cases h : c.k = 3
  · have hb : (c.k == 3) = true := by simpa using h
    go_enter Try.func116, Try.ntmps116
    go_wp2
    go_ret
    exact ⟨ret_int (by simp [ari, h]), (Below.refl _ _).alloc (Nat.le_refl _) _⟩
  · have hb : (c.k == 3) = false := by simpa using h
    go_enter Try.func116, Try.ntmps116
    go_wp2
    go_ret
    exact ⟨ret_int (by simp [ari, h]), (Below.refl _ _).alloc (Nat.le_refl _) _⟩

theorem okC1 {c : C} (h : c.k = 1) : okC c = true ↔ 0 ≤ c.n ∧ c.n ≤ 99999 ∧ c.s.size = 0 := by
  unfold okC; rw [if_pos h]; simp only [Bool.and_eq_true, decide_eq_true_eq]; omega
theorem okC2 {c : C} (h : c.k = 2) : okC c = true ↔ -9999 ≤ c.n ∧ c.n ≤ 9999 ∧ c.s.size = 0 := by
  unfold okC; rw [if_neg (by omega), if_pos h]; simp only [Bool.and_eq_true, decide_eq_true_eq]; omega
theorem okC3 {c : C} (h : c.k = 3) : okC c = true ↔ 0 ≤ c.n ∧ c.n ≤ 3 ∧ nameB c.s = true := by
  unfold okC; rw [if_neg (by omega), if_neg (by omega), if_pos h]; simp only [Bool.and_eq_true, decide_eq_true_eq]; exact and_assoc
theorem okC4 {c : C} (h1 : c.k ≠ 1) (h2 : c.k ≠ 2) (h3 : c.k ≠ 3) : okC c = false := by
  unfold okC; rw [if_neg h1, if_neg h2, if_neg h3]

theorem iff_no {b : Bool} {P : Prop} (h : b = true ↔ P) (hp : ¬ P) : false = b := by
  cases b with
  | false => rfl
  | true => exact absurd (h.1 rfl) hp
theorem iff_dec {b : Bool} {P q : Prop} [Decidable q] (h : b = true ↔ P) (hp : P ↔ q) : decide q = b := by
  rw [Bool.eq_iff_iff, h, hp]; simp

theorem cell_below (w : World) (o : Obj) : Below w.heap.size w (w.alloc o) := (Below.refl _ _).alloc (Nat.le_refl _) _

set_option maxHeartbeats 1000000 in
theorem cellOk_any (c : C) (w : World) (hs : c.s.size ≤ maxLen) :
    Calls Try.prog 112 #[.agg #[.int .i64 c.k, .int .i64 c.n, .string c.s]] w fun e w' => e = .returned (.bool (okC c)) ∧ Below w.heap.size w w' := by
  by_cases h1 : c.k = 1
  · have hb : (c.k == 1) = true := by simpa using h1
    have H : Hid (okC c = true ↔ 0 ≤ c.n ∧ c.n ≤ 99999 ∧ c.s.size = 0) := okC1 h1
    clear h1
    by_cases he : 1 ≤ c.s.size
    · have hz := empty_no he
      go_enter Try.func112, Try.ntmps112
      go_wp2
      go_ret
      exact ⟨ret_bool (by first | exact iff_no H.out (by omega) | exact iff_dec H.out (by omega)), cell_below _ _⟩
    · have hz := empty_yes he
      by_cases h2 : 0 ≤ c.n
      · go_enter Try.func112, Try.ntmps112
        go_wp2
        all_goals go_ret
        all_goals exact ⟨ret_bool (by first | exact iff_no H.out (by omega) | exact iff_dec H.out (by omega)), cell_below _ _⟩
      · go_enter Try.func112, Try.ntmps112
        go_wp2
        go_ret
        exact ⟨ret_bool (by first | exact iff_no H.out (by omega) | exact iff_dec H.out (by omega)), cell_below _ _⟩
  · have hb : (c.k == 1) = false := by simpa using h1
    by_cases h2 : c.k = 2
    · have hb2 : (c.k == 2) = true := by simpa using h2
      have H : Hid (okC c = true ↔ -9999 ≤ c.n ∧ c.n ≤ 9999 ∧ c.s.size = 0) := okC2 h2
      clear h1 h2
      by_cases he : 1 ≤ c.s.size
      · have hz := empty_no he
        go_enter Try.func112, Try.ntmps112
        go_wp2
        go_ret
        exact ⟨ret_bool (by first | exact iff_no H.out (by omega) | exact iff_dec H.out (by omega)), cell_below _ _⟩
      · have hz := empty_yes he
        by_cases h2 : -9999 ≤ c.n
        · go_enter Try.func112, Try.ntmps112
          go_wp2
          all_goals go_ret
          all_goals exact ⟨ret_bool (by first | exact iff_no H.out (by omega) | exact iff_dec H.out (by omega)), cell_below _ _⟩
        · go_enter Try.func112, Try.ntmps112
          go_wp2
          go_ret
          exact ⟨ret_bool (by first | exact iff_no H.out (by omega) | exact iff_dec H.out (by omega)), cell_below _ _⟩
    · have hb2 : (c.k == 2) = false := by simpa using h2
      by_cases h3 : c.k = 3
      · have hb3 : (c.k == 3) = true := by simpa using h3
        have H : Hid (okC c = true ↔ 0 ≤ c.n ∧ c.n ≤ 3 ∧ nameB c.s = true) := okC3 h3
        clear h1 h2 h3
        cases hn : nameB c.s with
        | false =>
          go_enter Try.func112, Try.ntmps112
          go_wp2_with (go_at_call 131; refine (nameOk_any _ _ hs).mono ?_; rintro e w' ⟨rfl, rfl⟩)
          go_ret
          exact ⟨ret_bool (iff_no H.out (by simp [hn])), cell_below _ _⟩
        | true =>
          by_cases h2 : 0 ≤ c.n
          · go_enter Try.func112, Try.ntmps112
            go_wp2_with (go_at_call 131; refine (nameOk_any _ _ hs).mono ?_; rintro e w' ⟨rfl, rfl⟩)
            all_goals go_ret
            all_goals exact ⟨ret_bool (by first | exact iff_no H.out (by simp only [hn, and_true]; omega) | exact iff_dec H.out (by simp only [hn, and_true]; omega)), cell_below _ _⟩
          · go_enter Try.func112, Try.ntmps112
            go_wp2_with (go_at_call 131; refine (nameOk_any _ _ hs).mono ?_; rintro e w' ⟨rfl, rfl⟩)
            all_goals go_ret
            all_goals exact ⟨ret_bool (by first | exact iff_no H.out (by simp only [hn, and_true]; omega) | exact iff_dec H.out (by simp only [hn, and_true]; omega)), cell_below _ _⟩
      · have hb3 : (c.k == 3) = false := by simpa using h3
        have H : Hid (okC c = false) := okC4 h1 h2 h3
        clear h1 h2 h3
        go_enter Try.func112, Try.ntmps112
        go_wp2
        go_ret
        exact ⟨ret_bool (by rw [H.out]), cell_below _ _⟩
end Go.Proofs.Ytejlmelebfdpeaa

/- The walk of the program's TrmOk. -/
namespace Go.Proofs.Ytejlmelebfdpeaa
open Go.RowKit
set_option linter.unusedVariables false
set_option linter.unusedSimpArgs false

theorem goes_step {t : List C} {k : Nat} (h : k < t.length) (x : Int) (hx : x ≠ 0) (ho : okC t[k] = true) : goes x (t.drop k) = goes (x + (ari t[k] - 1)) (t.drop (k + 1)) := by
  rw [List.drop_eq_getElem_cons h]; simp [goes, hx, ho]
theorem goes_zero {t : List C} {k : Nat} (h : k < t.length) : goes 0 (t.drop k) = false := by
  rw [List.drop_eq_getElem_cons h]; simp [goes]
theorem goes_bad {t : List C} {k : Nat} (h : k < t.length) (x : Int) (ho : okC t[k] = false) : goes x (t.drop k) = false := by
  rw [List.drop_eq_getElem_cons h]; simp [goes, ho]
theorem goes_end {t : List C} {k : Nat} (h : ¬ k < t.length) (x : Int) : goes x (t.drop k) = decide (x = 0) := by
  rw [List.drop_eq_nil_iff.2 (by omega)]; rfl

theorem trm_of {t : List C} (h : t.length ≤ 40) {b : Bool} (hg : goes 1 t = b) : trm t = b := by simp [trm, h, hg]
theorem trm_long {t : List C} (h : ¬ t.length ≤ 40) : trm t = false := by simp [trm, h]

set_option maxHeartbeats 1000000 in
theorem TrmOk_some (b off cap : Nat) (t : List C) (w : World) (hm : t.length ≤ maxLen) (hA : At w b off t) (hF : Fit t) :
    Calls Try.prog 91 #[.slice (some ⟨b, off, none⟩) t.length cap] w fun e w' => e = .returned (.bool (trm t)) ∧ Below w.heap.size w w' := by
  unfold maxLen at hm
  by_cases h40 : t.length ≤ 40
  · go_enter Try.func91, Try.ntmps91
    go_wp2
    go_loopw [3, 11] (fun m i wr => ∃ (k : Nat) (x : Int), k ≤ t.length ∧ i = .int .i64 k ∧ m = .int .i64 x ∧ 0 ≤ x ∧ x ≤ 1 + 3 * k ∧ goes 1 t = goes x (t.drop k) ∧ Below w.heap.size w wr) (fun _ i _ => t.length - (intOf i).toNat)
    case atStart => exact ⟨0, 1, Nat.zero_le _, rfl, rfl, by omega, by omega, rfl, Below.refl _ _⟩
    case round =>
      obtain ⟨k, x, hk, rfl, rfl, hx0, hx1, hg, hB⟩ := hrel
      have H : Hid (goes 1 t = goes x (t.drop k)) := hg
      clear hg
      by_cases hlt : k < t.length
      · obtain ⟨c0, c1, c2⟩ := (hA.below hB) k hlt
        have hs := hF.get k hlt
        obtain ⟨c, hc⟩ : ∃ c, c = t[k] := ⟨_, rfl⟩
        rw [← hc] at c0 c1 c2 hs
        have HC : Hid (c = t[k]) := hc
        clear hc
        by_cases hx : x = 0
        · have hxb : (x == 0) = true := by simpa using hx
          go_wp2
          go_ret
          refine ⟨ret_bool ?_, hB.alloc hB.size _⟩
          rw [trm_of h40 H.out, hx, goes_zero hlt]
        · have hxb : (x == 0) = false := by simpa using hx
          cases ho : okC c with
          | false =>
            go_wp2_with fail
            refine (cellOk_any c _ hs).mono ?_
            rintro e w1 ⟨rfl, hb1⟩
            go_wp2
            go_ret
            refine ⟨ret_bool ?_, (hB.alloc hB.size _).trans (hb1.mono (by have := hB.size; simp; omega))⟩
            rw [trm_of h40 H.out, goes_bad hlt x (by rw [← HC.out]; exact ho)]
          | true =>
            have hari := ari_ok ho
            go_wp2_with fail
            refine (cellOk_any c _ hs).mono ?_
            rintro e w1 ⟨rfl, hb1⟩
            have hq0 := hb1.cell (p := ⟨wr.heap.size, 0, none⟩) (by simp)
            have hq1 := hb1.cell (p := ⟨wr.heap.size, 1, none⟩) (by simp)
            have hq2 := hb1.cell (p := ⟨wr.heap.size, 2, none⟩) (by simp)
            go_wp2_with fail
            refine (cellArity_any c _).mono ?_
            rintro e w2 ⟨rfl, hb2⟩
            clear hq0 hq1 hq2 c0 c1 c2
            go_wp2
            go_roundw
            case rel =>
              refine ⟨k + 1, x + (ari c - 1), by omega, by go_num, by go_num, by omega, by omega, ?_, ((hB.alloc hB.size _).trans (hb1.mono (by have := hB.size; simp; omega))).trans (hb2.mono (by have := hB.size; have := hb1.size; simp at this; omega))⟩
              rw [H.out, goes_step hlt x hx (by rw [← HC.out]; exact ho), HC.out]
            case measure => simp [intOf]; omega
      · go_wp2
        go_ret
        refine ⟨ret_bool ?_, hB⟩
        rw [trm_of h40 H.out, goes_end hlt]
        rfl
  · go_enter Try.func91, Try.ntmps91
    go_wp2
    go_ret
    exact ⟨ret_bool (trm_long h40).symm, Below.refl _ _⟩

set_option maxHeartbeats 400000 in
theorem TrmOk_none (ao : Option Addr) (cap : Nat) (w : World) :
    Calls Try.prog 91 #[.slice ao 0 cap] w fun e w' => e = .returned (.bool false) ∧ Below w.heap.size w w' := by
  go_enter Try.func91, Try.ntmps91
  go_wp2
  refine wp_loop_rounds 1 ?_
  rw [rounds_succ]
  go_wp2
  go_ret
  exact ⟨rfl, Below.refl _ _⟩

/-- The program's TrmOk, of whatever places: whether they are a term. -/
theorem TrmOk_any (ao : Option Addr) (cap : Nat) (t : List C) (w : World) (hm : t.length ≤ maxLen) (hA : Row w ao t) (hF : Fit t) :
    Calls Try.prog 91 #[.slice ao t.length cap] w fun e w' => e = .returned (.bool (trm t)) ∧ Below w.heap.size w w' := by
  rcases hA with rfl | ⟨b, off, rfl, hA⟩
  · rw [trm_nil]; exact TrmOk_none ao cap w
  · exact TrmOk_some b off cap t w hm hA hF
end Go.Proofs.Ytejlmelebfdpeaa
