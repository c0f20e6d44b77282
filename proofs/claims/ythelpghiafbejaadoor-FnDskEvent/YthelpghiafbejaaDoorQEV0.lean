/- Lines of what happens, without memory: words cut at blanks; what a line says. -/
import Derived.Test.YthelpghiafbejaaDoorQRR2
import Derived.Test.YthelpghiafbejaaDoorQSX1
namespace Go.Proofs.YthelpghiafbejaaDoor
set_option linter.unusedVariables false
set_option linter.unusedSimpArgs false

/-- A word put ahead of the first one. -/
def preW (w : List UInt8) : List (List UInt8) → List (List UInt8)
  | [] => [w]
  | x :: xs => (w ++ x) :: xs
/-- The words of a line: what is ahead of each blank, and behind the last one. -/
def cutW : List UInt8 → List (List UInt8)
  | [] => [[]]
  | b :: r => if b = 32 then [] :: cutW r else preW [b] (cutW r)
theorem cutW_ne : ∀ l : List UInt8, cutW l ≠ []
  | [] => by simp [cutW]
  | b :: r => by
      unfold cutW
      split
      · simp
      · cases cutW r <;> simp [preW]
theorem preW_preW (a b : List UInt8) (ws : List (List UInt8)) : preW a (preW b ws) = preW (a ++ b) ws := by
  cases ws <;> simp [preW]
theorem preW_nil {ws : List (List UInt8)} (h : ws ≠ []) : preW [] ws = ws := by
  cases ws with
  | nil => exact absurd rfl h
  | cons x xs => simp [preW]
theorem cutW_blank (r : List UInt8) : cutW (32 :: r) = [] :: cutW r := by simp [cutW]
theorem cutW_other {b : UInt8} (h : b ≠ 32) (r : List UInt8) : cutW (b :: r) = preW [b] (cutW r) := by simp [cutW, h]
theorem cutW_pre : ∀ (a r : List UInt8), (∀ b ∈ a, b ≠ 32) → cutW (a ++ r) = preW a (cutW r)
  | [], r, _ => by rw [List.nil_append, preW_nil (cutW_ne r)]
  | b :: a, r, h => by
      rw [List.cons_append, cutW_other (h b (by simp)), cutW_pre a r (fun x hx => h x (by simp [hx])), preW_preW]
      rfl
theorem cutW_word {a : List UInt8} (h : ∀ b ∈ a, b ≠ 32) : cutW a = [a] := by
  have := cutW_pre a [] h
  rw [List.append_nil] at this
  rw [this]; simp [cutW, preW]
theorem cutW_first {a : List UInt8} (h : ∀ b ∈ a, b ≠ 32) (r : List UInt8) : cutW (a ++ 32 :: r) = a :: cutW r := by
  rw [cutW_pre a _ h, cutW_blank]; simp [preW]
theorem preW_app (a : List UInt8) {xs : List (List UInt8)} (h : xs ≠ []) (ys : List (List UInt8)) : preW a (xs ++ ys) = preW a xs ++ ys := by
  cases xs with
  | nil => exact absurd rfl h
  | cons x xs => simp [preW]
theorem cutW_app : ∀ (a r : List UInt8), cutW (a ++ 32 :: r) = cutW a ++ cutW r
  | [], r => by rw [List.nil_append, cutW_blank]; simp [cutW]
  | b :: a, r => by
      rw [List.cons_append]
      by_cases hb : b = 32
      · subst hb; rw [cutW_blank, cutW_blank, cutW_app a r]; rfl
      · rw [cutW_other hb, cutW_other hb, cutW_app a r, preW_app _ (cutW_ne a)]
theorem preW_len (a : List UInt8) {ws : List (List UInt8)} (h : ws ≠ []) : (preW a ws).length = ws.length := by
  cases ws with
  | nil => exact absurd rfl h
  | cons x xs => simp [preW]
theorem cutW_len : ∀ l : List UInt8, (cutW l).length ≤ l.length + 1
  | [] => by simp [cutW]
  | b :: r => by
      have := cutW_len r
      by_cases hb : b = 32
      · subst hb; rw [cutW_blank]; simp; omega
      · rw [cutW_other hb, preW_len _ (cutW_ne r)]; simp; omega
/-- Words are a line again. -/
def joinW : List (List UInt8) → List UInt8
  | [] => []
  | [w] => w
  | w :: ws => w ++ 32 :: joinW ws
theorem joinW_cons (w : List UInt8) {ws : List (List UInt8)} (h : ws ≠ []) : joinW (w :: ws) = w ++ 32 :: joinW ws := by
  cases ws with
  | nil => exact absurd rfl h
  | cons x xs => rfl
theorem joinW_pre (a : List UInt8) {ws : List (List UInt8)} (h : ws ≠ []) : joinW (preW a ws) = a ++ joinW ws := by
  cases ws with
  | nil => exact absurd rfl h
  | cons x xs =>
    by_cases hx : xs = []
    · subst hx; rfl
    · show joinW ((a ++ x) :: xs) = _
      rw [joinW_cons _ hx, joinW_cons _ hx, List.append_assoc]
theorem joinW_cut : ∀ l : List UInt8, joinW (cutW l) = l
  | [] => by simp [cutW, joinW]
  | b :: r => by
      by_cases hb : b = 32
      · subst hb; rw [cutW_blank, joinW_cons _ (cutW_ne r), joinW_cut r]; rfl
      · rw [cutW_other hb, joinW_pre _ (cutW_ne r), joinW_cut r]; rfl
theorem cutW_small : ∀ (l : List UInt8) (w : List UInt8), w ∈ cutW l → w.length ≤ l.length
  | [], w, h => by simp [cutW] at h; subst h; simp
  | b :: r, w, h => by
      by_cases hb : b = 32
      · subst hb
        rw [cutW_blank] at h
        rcases List.mem_cons.1 h with rfl | h
        · simp
        · have := cutW_small r w h; simp; omega
      · rw [cutW_other hb] at h
        have hr := cutW_small r
        cases hc : cutW r with
        | nil => exact absurd hc (cutW_ne r)
        | cons x xs =>
          rw [hc] at h hr
          rcases List.mem_cons.1 (show w ∈ ([b] ++ x) :: xs from h) with rfl | h
          · have := hr x (by simp); simp; omega
          · have := hr w (by simp [h]); simp; omega

/-- The words of what happens, by their kinds. -/
def evNames : List (List UInt8) := [[], [97, 115, 107], [114, 117, 110], [104, 101, 97, 114], [108, 111, 115, 101], [116, 119, 105, 99, 101], [98, 101, 110, 100], [102, 97, 108, 108], [114, 105, 115, 101]]
/-- The kind of what happens by its word; 0, if there is none. -/
def evKind (s : List UInt8) : Nat :=
  if s = [97, 115, 107] then 1 else if s = [114, 117, 110] then 2 else if s = [104, 101, 97, 114] then 3 else if s = [108, 111, 115, 101] then 4
  else if s = [116, 119, 105, 99, 101] then 5 else if s = [98, 101, 110, 100] then 6 else if s = [102, 97, 108, 108] then 7 else if s = [114, 105, 115, 101] then 8 else 0
theorem evKind_le (s : List UInt8) : evKind s ≤ 8 := by
  unfold evKind
  (repeat' split) <;> omega
theorem evKind_name {s : List UInt8} (h : evKind s ≠ 0) : evNames[evKind s]? = some s := by
  unfold evKind at h ⊢
  repeat' split
  all_goals first
    | (rename_i e; subst e; rfl)
    | skip
  all_goals (rename_i e1 e2 e3 e4 e5 e6 e7 e8; rw [if_neg e1, if_neg e2, if_neg e3, if_neg e4, if_neg e5, if_neg e6, if_neg e7, if_neg e8] at h; exact absurd rfl h)

/-- A word's number: decimals, five at most, with no sign and no needless nought. -/
def numW (a : List UInt8) : Option Int := match Go.Lib.atoiAll a with
  | .ok v => if v < 0 ∨ 5 < a.length ∨ Go.Lib.itoa v ≠ a then none else some v
  | _ => none
/-- What words behind a kind's word say: the kind, and three numbers. -/
def evArgs (k : Nat) (ws : List (List UInt8)) : Option (Int × Int × Int × Int) :=
  if k = 0 then none
  else if k = 1 then (if ws = [] then some (1, 0, 0, 0) else none)
  else if k = 6 then (match ws with
    | [a, p, v] => (match numW a, numW p, numW v with
      | some a, some p, some v => some (6, a, p, v)
      | _, _, _ => none)
    | _ => none)
  else (match ws with
    | [a] => (match numW a with
      | some a => some ((k : Int), a, 0, 0)
      | none => none)
    | _ => none)
/-- What a line says. -/
def evOf (l : List UInt8) : Option (Int × Int × Int × Int) := match cutW l with
  | [] => none
  | w :: ws => evArgs (evKind w) ws
theorem dec_len5 {n : Nat} (h : (Go.Lib.decDigits n).length ≤ 5) : n < 100000 := by
  by_cases hn : n < 100000
  · exact hn
  · exfalso
    have h1 := decDigits_step (n := n) (by omega)
    have h2 := decDigits_step (n := n / 10) (by omega)
    have h3 := decDigits_step (n := n / 10 / 10) (by omega)
    have h4 := decDigits_step (n := n / 10 / 10 / 10) (by omega)
    have h5 := decDigits_step (n := n / 10 / 10 / 10 / 10) (by omega)
    rw [h1, h2, h3, h4, h5] at h
    simp at h
    exact dec_ne _ h
theorem numW_some {a : List UInt8} {v : Int} (h : numW a = some v) : 0 ≤ v ∧ v ≤ 99999 ∧ a = Go.Lib.decDigits v.toNat := by
  unfold numW at h
  split at h
  · rename_i x hx
    split at h
    · cases h
    · rename_i hc
      obtain rfl := Option.some.inj h
      have h0 : 0 ≤ x := by omega
      have hl : a.length ≤ 5 := by omega
      have he : Go.Lib.itoa x = a := Classical.byContradiction fun e => hc (.inr (.inr e))
      rw [itoa_pos h0] at he
      refine ⟨h0, ?_, he.symm⟩
      rw [← he] at hl
      have := dec_len5 hl
      omega
  · cases h
theorem dec_le5 {n : Nat} (h : n < 100000) : (Go.Lib.decDigits n).length ≤ 5 := by
  have := decB_size 4 n (by simpa using h)
  unfold decB at this
  rw [← bl_size, bl_mk] at this
  exact this
theorem numW_dec {n : Nat} (h : n < 100000) : numW (Go.Lib.decDigits n) = some (n : Int) := by
  unfold numW
  rw [atoi_dec h]
  simp only
  rw [if_neg]
  rintro (h1 | h1 | h1)
  · omega
  · have := dec_le5 h; omega
  · exact h1 (by rw [itoa_pos (by omega)]; rfl)
theorem dec_blank (n : Nat) : ∀ b ∈ Go.Lib.decDigits n, b ≠ 32 := fun b hb e => by
  have := digits_dig n n (Nat.lt_of_lt_of_le (Nat.lt_pow_self (by omega)) (Nat.pow_le_pow_right (by omega) (by omega))) b hb
  rw [e] at this
  exact absurd this (by decide)

/-- A word's number as the specification reads it; -1, if it is none. -/
def spNumW (s : List UInt8) : Int := if (s.takeWhile dig).length ≠ s.length then -1 else spNum s
theorem spNumW_dec {n : Nat} (h : n < 100000) : spNumW (Go.Lib.decDigits n) = n := by
  have h1 : (Go.Lib.decDigits n).takeWhile dig = Go.Lib.decDigits n := by
    have := (take_while_stop (p := dig) (r := []) (digits_dig 4 n (by simpa using h)) (by intro b hb; cases hb)).1
    rwa [List.append_nil] at this
  unfold spNumW
  rw [h1, if_neg (by simp), spNum_dec h]
theorem spNumW_len {s : List UInt8} (h : 0 ≤ spNumW s) : s.length ≤ 5 := by
  unfold spNumW at h
  split at h
  · omega
  · unfold spNum at h
    split at h
    · omega
    · omega
def evName (k : Nat) : List UInt8 := (evNames[k]?).getD []
theorem evName_kind {s : List UInt8} (h : evKind s ≠ 0) : evName (evKind s) = s := by
  unfold evName
  rw [evKind_name h]
  rfl
theorem evName_blank {k : Nat} (hk : k ≤ 8) : ∀ b ∈ evName k, b ≠ 32 := by
  have : k = 0 ∨ k = 1 ∨ k = 2 ∨ k = 3 ∨ k = 4 ∨ k = 5 ∨ k = 6 ∨ k = 7 ∨ k = 8 := by omega
  rcases this with rfl | rfl | rfl | rfl | rfl | rfl | rfl | rfl | rfl <;> (intro b hb e; subst e; revert hb; decide)
theorem evKind_of {k : Nat} (h0 : k ≠ 0) (hk : k ≤ 8) : evKind (evName k) = k := by
  have : k = 1 ∨ k = 2 ∨ k = 3 ∨ k = 4 ∨ k = 5 ∨ k = 6 ∨ k = 7 ∨ k = 8 := by omega
  rcases this with rfl | rfl | rfl | rfl | rfl | rfl | rfl | rfl <;> decide
/-- The text of what happens. -/
def evText (k a p v : Nat) : List UInt8 :=
  if k = 1 then evName 1
  else if k = 6 then evName 6 ++ 32 :: (Go.Lib.decDigits a ++ 32 :: (Go.Lib.decDigits p ++ 32 :: Go.Lib.decDigits v))
  else evName k ++ 32 :: Go.Lib.decDigits a
/-- A word's number, or nought where there is no such word. -/
def spAt (ws : List (List UInt8)) (i : Nat) : Int := match ws[i]? with
  | some s => spNumW s
  | none => 0
/-- What a line says, as the specification reads it. -/
def spOf (l : List UInt8) : Option (Int × Int × Int × Int) := match cutW l with
  | [] => none
  | w :: ws =>
    if evKind w = 0 ∨ 40 < l.length then none
    else if spAt ws 0 < 0 ∨ spAt ws 1 < 0 ∨ spAt ws 2 < 0 ∨ evText (evKind w) (spAt ws 0).toNat (spAt ws 1).toNat (spAt ws 2).toNat ≠ l then none
    else some (evKind w, spAt ws 0, spAt ws 1, spAt ws 2)
theorem cut_text1 : cutW (evText 1 0 0 0) = [evName 1] := by decide
theorem cut_text6 (a p v : Nat) : cutW (evText 6 a p v) = [evName 6, Go.Lib.decDigits a, Go.Lib.decDigits p, Go.Lib.decDigits v] := by
  unfold evText
  rw [if_neg (by decide), if_pos rfl, cutW_first (evName_blank (by decide)), cutW_first (dec_blank a), cutW_first (dec_blank p), cutW_word (dec_blank v)]
theorem cut_text {k : Nat} (h1 : k ≠ 1) (h6 : k ≠ 6) (hk : k ≤ 8) (a p v : Nat) : cutW (evText k a p v) = [evName k, Go.Lib.decDigits a] := by
  unfold evText
  rw [if_neg h1, if_neg h6, cutW_first (evName_blank hk), cutW_word (dec_blank a)]

theorem evArgs_spArgs {k : Nat} (h0 : k ≠ 0) (hk : k ≤ 8) {ws : List (List UInt8)} {q : Int × Int × Int × Int} (h : evArgs k ws = some q) :
    q = ((k : Int), spAt ws 0, spAt ws 1, spAt ws 2) ∧ 0 ≤ spAt ws 0 ∧ 0 ≤ spAt ws 1 ∧ 0 ≤ spAt ws 2 ∧ evText k (spAt ws 0).toNat (spAt ws 1).toNat (spAt ws 2).toNat = joinW (evName k :: ws) := by
  unfold evArgs at h
  rw [if_neg h0] at h
  by_cases h1 : k = 1
  · rw [if_pos h1] at h
    subst h1
    split at h
    · rename_i e; subst e
      obtain rfl := Option.some.inj h
      exact ⟨rfl, by decide, by decide, by decide, rfl⟩
    · cases h
  · rw [if_neg h1] at h
    by_cases h6 : k = 6
    · rw [if_pos h6] at h
      subst h6
      match ws, h with
      | [x, y, z], h =>
        simp only at h
        cases hx : numW x with
        | none => rw [hx] at h; cases h
        | some a =>
          cases hy : numW y with
          | none => rw [hx, hy] at h; cases h
          | some b =>
            cases hz : numW z with
            | none => rw [hx, hy, hz] at h; cases h
            | some c =>
              rw [hx, hy, hz] at h
              obtain rfl := Option.some.inj h
              obtain ⟨a0, a1, rfl⟩ := numW_some hx
              obtain ⟨b0, b1, rfl⟩ := numW_some hy
              obtain ⟨c0, c1, rfl⟩ := numW_some hz
              have ea : spAt [Go.Lib.decDigits a.toNat, Go.Lib.decDigits b.toNat, Go.Lib.decDigits c.toNat] 0 = a := by
                show spNumW _ = a
                rw [spNumW_dec (by omega)]; omega
              have eb : spAt [Go.Lib.decDigits a.toNat, Go.Lib.decDigits b.toNat, Go.Lib.decDigits c.toNat] 1 = b := by
                show spNumW _ = b
                rw [spNumW_dec (by omega)]; omega
              have ec : spAt [Go.Lib.decDigits a.toNat, Go.Lib.decDigits b.toNat, Go.Lib.decDigits c.toNat] 2 = c := by
                show spNumW _ = c
                rw [spNumW_dec (by omega)]; omega
              rw [ea, eb, ec]
              exact ⟨rfl, a0, b0, c0, rfl⟩
    · rw [if_neg h6] at h
      match ws, h with
      | [x], h =>
        simp only at h
        cases hx : numW x with
        | none => rw [hx] at h; cases h
        | some a =>
          rw [hx] at h
          obtain rfl := Option.some.inj h
          obtain ⟨a0, a1, rfl⟩ := numW_some hx
          have ea : spAt [Go.Lib.decDigits a.toNat] 0 = a := by
            show spNumW _ = a
            rw [spNumW_dec (by omega)]; omega
          rw [ea]
          refine ⟨rfl, a0, by simp [spAt], by simp [spAt], ?_⟩
          unfold evText
          rw [if_neg h1, if_neg h6]
          rfl

theorem spAt_lt {ws : List (List UInt8)} {i : Nat} {x : List UInt8} (h : ws[i]? = some x) (hn : 0 ≤ spAt ws i) (n : Nat) (hx : x = Go.Lib.decDigits n) : n < 100000 := by
  subst hx
  unfold spAt at hn
  rw [h] at hn
  exact dec_len5 (spNumW_len hn)

theorem spOf_evOf (l : List UInt8) (hl : l.length ≤ 40) : spOf l = evOf l := by
  unfold spOf evOf
  have hj := joinW_cut l
  cases hc : cutW l with
  | nil => exact absurd hc (cutW_ne l)
  | cons w ws =>
    rw [hc] at hj
    simp only
    have hk8 := evKind_le w
    by_cases h0 : evKind w = 0
    · rw [if_pos (.inl h0), h0]; rfl
    · have hw := evName_kind h0
      rw [if_neg (by omega)]
      cases hev : evArgs (evKind w) ws with
      | some q =>
        obtain ⟨rfl, q0, q1, q2, q3⟩ := evArgs_spArgs h0 hk8 hev
        rw [hw, hj] at q3
        rw [if_neg]
        rintro (e | e | e | e)
        · omega
        · omega
        · omega
        · exact e q3
      | none =>
        by_cases hb : spAt ws 0 < 0 ∨ spAt ws 1 < 0 ∨ spAt ws 2 < 0 ∨ evText (evKind w) (spAt ws 0).toNat (spAt ws 1).toNat (spAt ws 2).toNat ≠ l
        · rw [if_pos hb]
        · exfalso
          have b0 : 0 ≤ spAt ws 0 := by omega
          have b1 : 0 ≤ spAt ws 1 := by omega
          have b2 : 0 ≤ spAt ws 2 := by omega
          have bt : evText (evKind w) (spAt ws 0).toNat (spAt ws 1).toNat (spAt ws 2).toNat = l := Classical.byContradiction fun e => hb (.inr (.inr (.inr e)))
          clear hb
          generalize hkk : evKind w = k at *
          generalize ha : (spAt ws 0).toNat = a at *
          generalize hp : (spAt ws 1).toNat = p at *
          generalize hv : (spAt ws 2).toNat = v at *
          by_cases h1 : k = 1
          · subst h1
            have : evText 1 a p v = evText 1 0 0 0 := rfl
            rw [← bt, this, cut_text1] at hc
            obtain ⟨_, rfl⟩ := List.cons.inj hc
            exact absurd hev (by simp [evArgs])
          · have hcl := hc
            rw [← bt] at hcl
            by_cases h6 : k = 6
            · subst h6
              rw [cut_text6] at hcl
              obtain ⟨_, rfl⟩ := List.cons.inj hcl
              have ga := spAt_lt (i := 0) rfl b0 a rfl
              have gp := spAt_lt (i := 1) rfl b1 p rfl
              have gv := spAt_lt (i := 2) rfl b2 v rfl
              unfold evArgs at hev
              rw [if_neg h0, if_neg h1, if_pos rfl] at hev
              simp only [numW_dec ga, numW_dec gp, numW_dec gv] at hev
              cases hev
            · rw [cut_text h1 h6 hk8] at hcl
              obtain ⟨_, rfl⟩ := List.cons.inj hcl
              have ga := spAt_lt (i := 0) rfl b0 a rfl
              unfold evArgs at hev
              rw [if_neg h0, if_neg h1, if_neg h6] at hev
              simp only [numW_dec ga] at hev
              cases hev
/-- With four words more no line is one. -/
theorem evOf_more (l r : List UInt8) (hr : 4 ≤ (cutW r).length) : evOf (l ++ 32 :: r) = none := by
  unfold evOf
  rw [cutW_app]
  cases hc : cutW l with
  | nil => exact absurd hc (cutW_ne l)
  | cons w ws =>
    simp only [List.cons_append]
    unfold evArgs
    split
    · rfl
    · split
      · rw [if_neg]
        intro e
        rw [(List.append_eq_nil_iff.1 e).2] at hr
        simp at hr
      · split
        · match hw : ws ++ cutW r with
          | [a, p, v] => have := congrArg List.length hw; rw [List.length_append] at this; simp at this; omega
          | [] => rfl
          | [_] => rfl
          | [_, _] => rfl
          | _ :: _ :: _ :: _ :: _ => rfl
        · match hw : ws ++ cutW r with
          | [a] => have := congrArg List.length hw; rw [List.length_append] at this; simp at this; omega
          | [] => rfl
          | _ :: _ :: _ => rfl
end Go.Proofs.YthelpghiafbejaaDoor
