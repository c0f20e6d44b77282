import Derived.Test.YtkedckmpjedjoaaChecked
import Derived.Test.YtkedckmpjedjoaaQPlainMemOpen
import Derived.WalkKit
import Derived.WalkLawsBesides
import Derived.Outline
import Derived.Laws.OwnMore
import Derived.Deep.QuietTactic
import Derived.BigQuiet
import Derived.WalkSmall
/- The walks of the program's own look at places: isSmall, countWhile, nameOk, cellOk, cellArity. -/
namespace Go.Proofs.Ytkedckmpjedjoaa
open Go.RowKit
set_option linter.unusedVariables false
set_option linter.unusedSimpArgs false

theorem ret_int {k : IntKind} {a b : Int} (h : a = b) : Ending.returned (.int k a) = .returned (.int k b) := by rw [h]
theorem ret_bool {a b : Bool} (h : a = b) : Ending.returned (.bool a) = .returned (.bool b) := by rw [h]

set_option maxHeartbeats 400000 in
theorem isSmall_any (c : Int) (w : World) :
    Calls Try.prog 180 #[.int .u8 c] w fun e w' => e = .returned (.bool (small c)) ∧ w' = w := by
  by_cases h1 : 97 ≤ c
  · by_cases h2 : c ≤ 122
    · go_enter Try.func180, Try.ntmps180
      go_wp2
      go_ret
      exact ⟨by simp [small, h1, h2], rfl⟩
    · go_enter Try.func180, Try.ntmps180
      go_wp2
      go_ret
      exact ⟨by simp [small]; omega, rfl⟩
  · go_enter Try.func180, Try.ntmps180
    go_wp2
    go_ret
    exact ⟨by simp [small]; omega, rfl⟩

set_option maxHeartbeats 400000 in
theorem countWhile_any (s : ByteArray) (w : World) (hs : s.size ≤ maxLen) :
    Calls Try.prog 179 #[.string s, .func (.func 180) #[] #[]] w fun e w' => e = .returned (.int .i64 (cnt s.data.toList)) ∧ w' = w := by
  unfold maxLen at hs
  have hsz : s.data.toList.length = s.size := by simp
  go_enter Try.func179, Try.ntmps179
  go_wp2
  go_loop [5] (fun i => ∃ k : Nat, k ≤ s.size ∧ i = .int .i64 k ∧ ∀ j : Nat, (h : j < s.size) → j < k → small s[j].toNat = true) (fun i => s.size - (intOf i).toNat)
  case atStart => exact ⟨0, Nat.zero_le _, rfl, fun j _ h => absurd h (Nat.not_lt_zero _)⟩
  case round =>
    obtain ⟨k, hk, rfl, hall⟩ := hrel
    have H : Hid (∀ j : Nat, (h : j < s.size) → j < k → small s[j].toNat = true) := hall
    clear hall
    by_cases hlt : k < s.size
    · by_cases hb : small s[k].toNat = true
      · go_wp2_with (go_at_call 180; refine (isSmall_any _ _).mono ?_; rintro e w' ⟨rfl, rfl⟩)
        go_round
        case rel =>
          refine ⟨k + 1, by omega, by go_num, fun j hj hjk => ?_⟩
          by_cases e : j = k
          · subst e; exact hb
          · exact H.out j hj (by omega)
        case measure => simp [intOf]; omega
      · have hb' : small s[k].toNat = false := by simpa using hb
        clear hb
        go_wp2_with (go_at_call 180; refine (isSmall_any _ _).mono ?_; rintro e w' ⟨rfl, rfl⟩)
        go_ret
        exact ⟨ret_int (by rw [cnt_stop s.data.toList k (fun j hj hjk => H.out j (by simpa using hj) hjk) (by simpa using hlt) hb']), rfl⟩
    · go_wp2
      go_ret
      exact ⟨ret_int (by rw [cnt_all s.data.toList (fun j hj => H.out j (by simpa using hj) (by simp at hj; omega))]; simp; omega), rfl⟩

theorem nameB_eq (s : ByteArray) (h1 : 1 ≤ s.size) (h2 : s.size ≤ 8) : nameB s = decide (cnt s.data.toList = s.size) := by
  have := cnt_eq_iff s.data.toList
  simp only [nameB, letters, h1, h2, decide_true, Bool.true_and]
  rw [Bool.eq_iff_iff, ← this]
  simp

theorem empty_no {s : ByteArray} (h : 1 ≤ s.size) : s.toList.isEmpty = false := by
  have hsz : s.data.toList.length = s.size := by simp
  rw [ByteArray.toList_eq]
  cases e : s.data.toList with
  | nil => have : s.data.toList.length = 0 := by rw [e]; rfl
           rw [hsz] at this; omega
  | cons a r => rfl
theorem empty_yes {s : ByteArray} (h : ¬ 1 ≤ s.size) : s.toList.isEmpty = true := by
  have hsz : s.data.toList.length = s.size := by simp
  rw [ByteArray.toList_eq]
  have : s.data.toList.length = 0 := by omega
  rw [List.length_eq_zero_iff] at this
  rw [this]; rfl

set_option maxHeartbeats 400000 in
theorem nameOk_any (s : ByteArray) (w : World) (hs : s.size ≤ maxLen) :
    Calls Try.prog 165 #[.string s] w fun e w' => e = .returned (.bool (nameB s)) ∧ w' = w := by
  by_cases h1 : 1 ≤ s.size
  · have he := empty_no h1
    by_cases h2 : s.size ≤ 8
    · have hn := nameB_eq s h1 h2
      have H : Hid (nameB s = decide (cnt s.data.toList = s.size)) := hn
      clear hn
      go_enter Try.func165, Try.ntmps165
      go_wp2_with (go_at_call 179; refine (countWhile_any _ _ hs).mono ?_; rintro e w' ⟨rfl, rfl⟩)
      go_ret
      exact ⟨ret_bool (by rw [H.out, Bool.eq_iff_iff]; simp; omega), rfl⟩
    · go_enter Try.func165, Try.ntmps165
      go_wp2
      go_ret
      exact ⟨ret_bool (by simp [nameB]; omega), rfl⟩
  · have he := empty_yes h1
    go_enter Try.func165, Try.ntmps165
    go_wp2
    go_ret
    exact ⟨ret_bool (by simp [nameB]; omega), rfl⟩

set_option maxHeartbeats 400000 in
theorem cellArity_any (c : C) (w : World) :
    Calls Try.prog 129 #[.agg #[.int .i64 c.k, .int .i64 c.n, .string c.s]] w fun e w' => e = .returned (.int .i64 (ari c)) ∧ Below w.heap.size w w' := by
  by_cases h : c.k = 3
  · have hb : (c.k == 3) = true := by simpa using h
    go_enter Try.func129, Try.ntmps129
    go_wp2
    go_ret
    exact ⟨ret_int (by simp [ari, h]), (Below.refl _ _).alloc (Nat.le_refl _) _⟩
  · have hb : (c.k == 3) = false := by simpa using h
    go_enter Try.func129, Try.ntmps129
    go_wp2
    go_ret
    exact ⟨ret_int (by simp [ari, h]), (Below.refl _ _).alloc (Nat.le_refl _) _⟩

theorem okC1 {c : C} (h : c.k = 1) : okC c = true ↔ 0 ≤ c.n ∧ c.n ≤ 99999 ∧ c.s.size = 0 := by
  unfold okC; rw [if_pos h]; simp only [Bool.and_eq_true, decide_eq_true_eq]; omega
theorem okC2 {c : C} (h : c.k = 2) : okC c = true ↔ -9999 ≤ c.n ∧ c.n ≤ 9999 ∧ c.s.size = 0 := by
  unfold okC; rw [if_neg (by omega), if_pos h]; simp only [Bool.and_eq_true, decide_eq_true_eq]; omega
theorem okC3 {c : C} (h : c.k = 3) : okC c = true ↔ 0 ≤ c.n ∧ c.n ≤ 3 ∧ nameB c.s = true := by
  unfold okC; rw [if_neg (by omega), if_neg (by omega), if_pos h]; simp only [Bool.and_eq_true, decide_eq_true_eq]; exact and_assoc
theorem okC4 {c : C} (h1 : c.k ≠ 1) (h2 : c.k ≠ 2) (h3 : c.k ≠ 3) : okC c = false := by
  unfold okC; rw [if_neg h1, if_neg h2, if_neg h3]

theorem iff_no {b : Bool} {P : Prop} (h : b = true ↔ P) (hp : ¬ P) : false = b := by
  cases b with
  | false => rfl
  | true => exact absurd (h.1 rfl) hp
theorem iff_dec {b : Bool} {P q : Prop} [Decidable q] (h : b = true ↔ P) (hp : P ↔ q) : decide q = b := by
  rw [Bool.eq_iff_iff, h, hp]; simp

theorem cell_below (w : World) (o : Obj) : Below w.heap.size w (w.alloc o) := (Below.refl _ _).alloc (Nat.le_refl _) _

set_option maxHeartbeats 1000000 in
theorem cellOk_any (c : C) (w : World) (hs : c.s.size ≤ maxLen) :
    Calls Try.prog 128 #[.agg #[.int .i64 c.k, .int .i64 c.n, .string c.s]] w fun e w' => e = .returned (.bool (okC c)) ∧ Below w.heap.size w w' := by
  by_cases h1 : c.k = 1
  · have hb : (c.k == 1) = true := by simpa using h1
    have H : Hid (okC c = true ↔ 0 ≤ c.n ∧ c.n ≤ 99999 ∧ c.s.size = 0) := okC1 h1
    clear h1
    by_cases he : 1 ≤ c.s.size
    · have hz := empty_no he
      go_enter Try.func128, Try.ntmps128
      go_wp2
      go_ret
      exact ⟨ret_bool (by first | exact iff_no H.out (by omega) | exact iff_dec H.out (by omega)), cell_below _ _⟩
    · have hz := empty_yes he
      by_cases h2 : 0 ≤ c.n
      · go_enter Try.func128, Try.ntmps128
        go_wp2
        all_goals go_ret
        all_goals exact ⟨ret_bool (by first | exact iff_no H.out (by omega) | exact iff_dec H.out (by omega)), cell_below _ _⟩
      · go_enter Try.func128, Try.ntmps128
        go_wp2
        go_ret
        exact ⟨ret_bool (by first | exact iff_no H.out (by omega) | exact iff_dec H.out (by omega)), cell_below _ _⟩
  · have hb : (c.k == 1) = false := by simpa using h1
    by_cases h2 : c.k = 2
    · have hb2 : (c.k == 2) = true := by simpa using h2
      have H : Hid (okC c = true ↔ -9999 ≤ c.n ∧ c.n ≤ 9999 ∧ c.s.size = 0) := okC2 h2
      clear h1 h2
      by_cases he : 1 ≤ c.s.size
      · have hz := empty_no he
        go_enter Try.func128, Try.ntmps128
        go_wp2
        go_ret
        exact ⟨ret_bool (by first | exact iff_no H.out (by omega) | exact iff_dec H.out (by omega)), cell_below _ _⟩
      · have hz := empty_yes he
        by_cases h2 : -9999 ≤ c.n
        · go_enter Try.func128, Try.ntmps128
          go_wp2
          all_goals go_ret
          all_goals exact ⟨ret_bool (by first | exact iff_no H.out (by omega) | exact iff_dec H.out (by omega)), cell_below _ _⟩
        · go_enter Try.func128, Try.ntmps128
          go_wp2
          go_ret
          exact ⟨ret_bool (by first | exact iff_no H.out (by omega) | exact iff_dec H.out (by omega)), cell_below _ _⟩
    · have hb2 : (c.k == 2) = false := by simpa using h2
      by_cases h3 : c.k = 3
      · have hb3 : (c.k == 3) = true := by simpa using h3
        have H : Hid (okC c = true ↔ 0 ≤ c.n ∧ c.n ≤ 3 ∧ nameB c.s = true) := okC3 h3
        clear h1 h2 h3
        cases hn : nameB c.s with
        | false =>
          go_enter Try.func128, Try.ntmps128
          go_wp2_with (go_at_call 165; refine (nameOk_any _ _ hs).mono ?_; rintro e w' ⟨rfl, rfl⟩)
          go_ret
          exact ⟨ret_bool (iff_no H.out (by simp [hn])), cell_below _ _⟩
        | true =>
          by_cases h2 : 0 ≤ c.n
          · go_enter Try.func128, Try.ntmps128
            go_wp2_with (go_at_call 165; refine (nameOk_any _ _ hs).mono ?_; rintro e w' ⟨rfl, rfl⟩)
            all_goals go_ret
            all_goals exact ⟨ret_bool (by first | exact iff_no H.out (by simp only [hn, and_true]; omega) | exact iff_dec H.out (by simp only [hn, and_true]; omega)), cell_below _ _⟩
          · go_enter Try.func128, Try.ntmps128
            go_wp2_with (go_at_call 165; refine (nameOk_any _ _ hs).mono ?_; rintro e w' ⟨rfl, rfl⟩)
            all_goals go_ret
            all_goals exact ⟨ret_bool (by first | exact iff_no H.out (by simp only [hn, and_true]; omega) | exact iff_dec H.out (by simp only [hn, and_true]; omega)), cell_below _ _⟩
      · have hb3 : (c.k == 3) = false := by simpa using h3
        have H : Hid (okC c = false) := okC4 h1 h2 h3
        clear h1 h2 h3
        go_enter Try.func128, Try.ntmps128
        go_wp2
        go_ret
        exact ⟨ret_bool (by rw [H.out]), cell_below _ _⟩
end Go.Proofs.Ytkedckmpjedjoaa

/- A row of places that a call itself has made: from 'ownsRow' to places and back. -/
namespace Go.Proofs.Ytkedckmpjedjoaa
open Go.RowKit
set_option linter.unusedVariables false
set_option linter.unusedSimpArgs false

def cellsOf (c : C) : List Value := [.int .i64 c.k, .int .i64 c.n, .string c.s]
def flat (t : List C) : List Value := t.flatMap cellsOf

theorem flat_nil : flat [] = [] := rfl
theorem flat_cons (c : C) (t : List C) : flat (c :: t) = .int .i64 c.k :: .int .i64 c.n :: .string c.s :: flat t := rfl
theorem flat_append (a b : List C) : flat (a ++ b) = flat a ++ flat b := by simp [flat]
theorem flat_length (t : List C) : (flat t).length = t.length * 3 := by
  induction t with
  | nil => rfl
  | cons c t ih => rw [flat_cons]; simp [ih]; omega

theorem flat_get : ∀ (t : List C) (i : Nat) (h : i < t.length), (flat t)[i * 3]? = some (.int .i64 t[i].k) ∧ (flat t)[i * 3 + 1]? = some (.int .i64 t[i].n) ∧ (flat t)[i * 3 + 2]? = some (.string t[i].s)
  | c :: t, 0, _ => ⟨rfl, rfl, rfl⟩
  | c :: t, i + 1, h => by
      have := flat_get t i (by simpa using h)
      rw [flat_cons, show (i + 1) * 3 = i * 3 + 3 by omega]
      simpa using this

theorem set3_take (xs : List Value) (k : Nat) (a b c : Value) (h : k * 3 + 3 ≤ xs.length) :
    (((xs.set (k * 3) a).set (k * 3 + 1) b).set (k * 3 + 2) c).take ((k + 1) * 3) = xs.take (k * 3) ++ [a, b, c] := by
  apply List.ext_getElem?
  intro i
  rw [List.getElem?_take]
  by_cases h1 : i < k * 3
  · rw [if_pos (by omega), List.getElem?_append_left (by simp; omega), List.getElem?_set_ne (by omega), List.getElem?_set_ne (by omega), List.getElem?_set_ne (by omega), List.getElem?_take, if_pos h1]
  · rw [List.getElem?_append_right (by simp; omega)]
    have hl : (xs.take (k * 3)).length = k * 3 := by simp; omega
    rw [hl]
    by_cases e0 : i = k * 3
    · subst e0; rw [if_pos (by omega), List.getElem?_set_ne (by omega), List.getElem?_set_ne (by omega), List.getElem?_set_self (by omega)]; simp
    by_cases e1 : i = k * 3 + 1
    · subst e1; rw [if_pos (by omega), List.getElem?_set_ne (by omega), List.getElem?_set_self (by simp; omega)]; simp [show k * 3 + 1 - k * 3 = 1 by omega]
    by_cases e2 : i = k * 3 + 2
    · subst e2; rw [if_pos (by omega), List.getElem?_set_self (by simp; omega)]; simp [show k * 3 + 2 - k * 3 = 2 by omega]
    · rw [if_neg (by omega), List.getElem?_eq_none (by simp; omega)]

/-- A value that is a row of the call's own leads to its places. -/
theorem owns_at {w : World} {base e g cap n : Nat} {t : List C} (h : w.ownsRow base e 3 (.slice (some ⟨g, 0, none⟩) n cap) n (flat t)) (hn : n = t.length) : At w g 0 t := fun i hi => by
  have f := flat_get t i hi
  have e0 := h.cellAt (i * 3) (by omega)
  have e1 := h.cellAt (i * 3 + 1) (by omega)
  have e2 := h.cellAt (i * 3 + 2) (by omega)
  rw [Nat.zero_add]
  exact ⟨e0.trans f.1, e1.trans f.2.1, e2.trans f.2.2⟩
end Go.Proofs.Ytkedckmpjedjoaa

/- Rows of numbers in memory; what is owned, and where it lies. -/
namespace Go.Proofs.Ytkedckmpjedjoaa
open Go.RowKit
set_option linter.unusedVariables false
set_option linter.unusedSimpArgs false

def AtI (w : World) (b off : Nat) (z : List Int) : Prop := ∀ i, (h : i < z.length) → w.cell? ⟨b, off + i, none⟩ = some (.int .i64 z[i])
def RowI (w : World) (ao : Option Addr) (z : List Int) : Prop := z = [] ∨ ∃ b off, ao = some ⟨b, off, none⟩ ∧ AtI w b off z

theorem AtI.below {w w' : World} {b off : Nat} {z : List Int} (h : AtI w b off z) (hb : Below w.heap.size w w') : AtI w' b off z := fun i hi =>
  (hb.cell (p := ⟨b, off + i, none⟩) (World.block_lt_of_cell? w ⟨b, _, none⟩ (h i hi))).trans (h i hi)
theorem RowI.below {w w' : World} {ao : Option Addr} {z : List Int} (h : RowI w ao z) (hb : Below w.heap.size w w') : RowI w' ao z := by
  rcases h with h | ⟨b, off, e, h⟩
  · exact .inl h
  · exact .inr ⟨b, off, e, h.below hb⟩

/-- The numbers as they lie. -/
def nums (z : List Int) : List Value := z.map (Value.int .i64)
theorem nums_length (z : List Int) : (nums z).length = z.length := by simp [nums]
theorem nums_get (z : List Int) (i : Nat) (h : i < z.length) : (nums z)[i]? = some (.int .i64 z[i]) := by simp [nums, h]

/-- A slice value v owns the places t. -/
def OwnC (w : World) (base : Nat) (v : Value) (t : List C) : Prop := w.ownsRow base 98 3 v t.length (flat t)
/-- A slice value v owns the numbers z. -/
def OwnI (w : World) (base : Nat) (v : Value) (z : List Int) : Prop := w.ownsRow base 3 1 v z.length (nums z)

theorem OwnC.shape {w : World} {base : Nat} {v : Value} {t : List C} (h : OwnC w base v t) : ∃ ao cap, v = .slice ao t.length cap ∧ Row w ao t := by
  have h' := h
  rcases h.2 with ⟨e, hn⟩ | ⟨g, cap, cur, e, _⟩
  · refine ⟨none, 0, ?_, .inl (List.length_eq_zero_iff.1 hn)⟩
    rw [e, hn]
  · subst e
    exact ⟨_, _, rfl, .inr ⟨g, 0, rfl, owns_at h' rfl⟩⟩

theorem ownsI_at {w : World} {base e g cap n : Nat} {z : List Int} (h : w.ownsRow base e 1 (.slice (some ⟨g, 0, none⟩) n cap) n (nums z)) (hn : n = z.length) : AtI w g 0 z := fun i hi => by
  have e0 := h.cellAt i (by omega)
  rw [Nat.zero_add]
  exact e0.trans (nums_get z i hi)

theorem OwnI.shape {w : World} {base : Nat} {v : Value} {z : List Int} (h : OwnI w base v z) : ∃ ao cap, v = .slice ao z.length cap ∧ RowI w ao z := by
  have h' := h
  rcases h.2 with ⟨e, hn⟩ | ⟨g, cap, cur, e, _⟩
  · refine ⟨none, 0, ?_, .inl (List.length_eq_zero_iff.1 hn)⟩
    rw [e, hn]
  · subst e
    exact ⟨_, _, rfl, .inr ⟨g, 0, rfl, ownsI_at h' rfl⟩⟩

theorem own_below {w w1 : World} {base e size n : Nat} {v : Value} {xs : List Value} (h : w.ownsRow base e size v n xs) (hb : Below w.heap.size w w1) : w1.ownsRow base e size v n xs := by
  refine h.kept (row := none) ⟨hb.os, hb.tape, hb.output, hb.size, fun j hj _ => hb.block j hj⟩ ?_
  cases v.ownBlock with
  | none => exact .inl rfl
  | some k => exact .inr (by simp)
theorem OwnC.below {w w1 : World} {base : Nat} {v : Value} {t : List C} (h : OwnC w base v t) (hb : Below w.heap.size w w1) : OwnC w1 base v t := own_below h hb
theorem OwnI.below {w w1 : World} {base : Nat} {v : Value} {z : List Int} (h : OwnI w base v z) (hb : Below w.heap.size w w1) : OwnI w1 base v z := own_below h hb

/-- What lies in another block is as it was. -/
theorem own_apart {w w1 : World} {base e size n : Nat} {v : Value} {xs : List Value} {row : Option Nat} (h : w.ownsRow base e size v n xs) (hg : w.grownBy w1 row) (hr : ∀ k, row = some k → k < base ∨ w.heap.size ≤ k) : w1.ownsRow base e size v n xs := by
  refine h.kept hg ?_
  cases hv : v.ownBlock with
  | none => exact .inl rfl
  | some k =>
    right
    intro e
    have := h.lt k hv
    have := hr k e.symm
    omega

theorem Row.apart {w w1 : World} {ao : Option Addr} {t : List C} {row : Option Nat} (h : Row w ao t) (hg : w.grownBy w1 row) (hr : ∀ a, ao = some a → some a.block ≠ row) : Row w1 ao t := by
  rcases h with h | ⟨b, off, e, h⟩
  · exact .inl h
  · refine .inr ⟨b, off, e, fun i hi => ?_⟩
    have hb : b < w.heap.size := World.block_lt_of_cell? w ⟨b, _, none⟩ (h i hi).1
    exact (h.kept (hg.block b hb (hr _ e))) i hi
end Go.Proofs.Ytkedckmpjedjoaa

/- The walks of eqIntS, caInts, markIntS, heldIntS. -/
namespace Go.Proofs.Ytkedckmpjedjoaa
open Go.RowKit
set_option linter.unusedVariables false
set_option linter.unusedSimpArgs false

theorem decide_eq_no {z y : List Int} (h : z ≠ y) : decide (z = y) = false := by simpa using h
theorem decide_eq_yes {z y : List Int} (h : z = y) : decide (z = y) = true := by simpa using h

/-- What markIntS writes. -/
def marksI (n : Nat) (k : Int) : List Int := (List.range n).map fun i : Nat => k + (i : Int)

theorem marksI_length (n : Nat) (k : Int) : (marksI n k).length = n := by simp [marksI]
theorem marksI_get {n i : Nat} {k : Int} (h : i < (marksI n k).length) : (marksI n k)[i] = k + i := by simp [marksI]

theorem setI_take (xs : List Value) (j : Nat) (k : Int) (h : j < xs.length) (hx : xs.take j = nums (marksI j k)) : (xs.set j (.int .i64 (k + j))).take (j + 1) = nums (marksI (j + 1) k) := by
  rw [List.take_succ_eq_append_getElem (by simpa using h), List.take_set_of_le (by omega), hx]
  simp [nums, marksI, List.range_succ]

theorem grown_refl (w : World) (row : Option Nat) : w.grownBy w row := ⟨rfl, rfl, rfl, Nat.le_refl _, fun _ _ _ => rfl⟩
theorem grown_trans {a b c : World} {row : Option Nat} (h : a.grownBy b row) (k : b.grownBy c row) : a.grownBy c row :=
  ⟨k.os.trans h.os, k.tape.trans h.tape, k.output.trans h.output, Nat.le_trans h.size k.size, fun i hi hn => (k.block i (Nat.lt_of_lt_of_le hi h.size) hn).trans (h.block i hi hn)⟩
theorem grown_below {a b : World} {row : Option Nat} (h : Below a.heap.size a b) : a.grownBy b row := ⟨h.os, h.tape, h.output, h.size, fun i hi _ => h.block i hi⟩

end Go.Proofs.Ytkedckmpjedjoaa
