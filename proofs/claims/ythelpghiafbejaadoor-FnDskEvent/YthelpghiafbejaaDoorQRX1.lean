/- Texts read: a reader of a list of bytes, there and back: a text is of one term alone. -/
import Derived.Test.YthelpghiafbejaaDoorQTX6TX7
import Derived.Lib.AtoiAllCases
namespace Go.Proofs.YthelpghiafbejaaDoor
set_option linter.unusedVariables false
set_option linter.unusedSimpArgs false

/-- A text's bytes. -/
def bl (s : ByteArray) : List UInt8 := s.data.toList
theorem bl_app (a b : ByteArray) : bl (a ++ b) = bl a ++ bl b := by simp [bl, ByteArray.data_append]
theorem bl_inj {a b : ByteArray} (h : bl a = bl b) : a = b := ba_ext (Array.toList_inj.1 h)
theorem bl_mk (l : List UInt8) : bl ⟨l.toArray⟩ = l := by simp [bl]
theorem bl_size (s : ByteArray) : (bl s).length = s.size := by unfold bl; rw [Array.length_toList]; rfl

def dig (b : UInt8) : Bool := decide (48 ≤ b.toNat) && decide (b.toNat ≤ 57)
def sml (b : UInt8) : Bool := small (b.toNat : Int)
theorem dig_iff (b : UInt8) : dig b = true ↔ 48 ≤ b.toNat ∧ b.toNat ≤ 57 := by simp [dig]
theorem sml_iff (b : UInt8) : sml b = true ↔ 97 ≤ b.toNat ∧ b.toNat ≤ 122 := by simp [sml, small]; omega

/-- What can stand behind a word. -/
def Stop (r : List UInt8) : Prop := ∀ b, r.head? = some b → dig b = false ∧ sml b = false

theorem take_while_stop {p : UInt8 → Bool} {l r : List UInt8} (hl : ∀ b ∈ l, p b = true) (hr : ∀ b, r.head? = some b → p b = false) : (l ++ r).takeWhile p = l ∧ (l ++ r).dropWhile p = r := by
  have h1 : r.takeWhile p = [] ∧ r.dropWhile p = r := by
    cases r with
    | nil => exact ⟨rfl, rfl⟩
    | cons b r => have := hr b rfl; simp [List.takeWhile, List.dropWhile, this]
  constructor
  · rw [List.takeWhile_append_of_pos hl, h1.1, List.append_nil]
  · rw [List.dropWhile_append_of_pos hl, h1.2]

/-- Decimals at the front, without needless noughts, and what is left. -/
def rdNum (s : List UInt8) : Option (Int × List UInt8) :=
  match Go.Lib.atoiAll (s.takeWhile dig) with
  | .ok v => if Go.Lib.itoa v = s.takeWhile dig then some (v, s.dropWhile dig) else none
  | _ => none

theorem itoa_pos {n : Int} (h : 0 ≤ n) : Go.Lib.itoa n = Go.Lib.decDigits n.toNat := by
  unfold Go.Lib.itoa
  rw [if_neg (by omega)]
theorem itoa_neg {n : Int} (h : n < 0) : Go.Lib.itoa n = 45 :: Go.Lib.decDigits (-n).toNat := by
  unfold Go.Lib.itoa
  rw [if_pos h, show n.natAbs = (-n).toNat by omega]
theorem decDigits_step {n : Nat} (h : ¬ n < 10) : Go.Lib.decDigits n = Go.Lib.decDigits (n / 10) ++ [UInt8.ofNat (48 + n % 10)] := by
  rw [Go.Lib.decDigits, dif_neg h]
theorem decDigits_low {n : Nat} (h : n < 10) : Go.Lib.decDigits n = [UInt8.ofNat (48 + n)] := by
  rw [Go.Lib.decDigits, dif_pos h]
theorem ofNat_dig {d : Nat} (h : d < 10) : (UInt8.ofNat (48 + d)).toNat = 48 + d := by
  simp [UInt8.toNat_ofNat]
  omega

theorem digits_dig : ∀ (k n : Nat), n < 10 ^ (k + 1) → ∀ b ∈ Go.Lib.decDigits n, dig b = true
  | 0, n, h, b, hb => by
      have h' : n < 10 := by simpa using h
      rw [decDigits_low h'] at hb
      simp only [List.mem_singleton] at hb
      subst hb
      rw [dig_iff, ofNat_dig h']; omega
  | k + 1, n, h, b, hb => by
      by_cases hs : n < 10
      · rw [decDigits_low hs] at hb
        simp only [List.mem_singleton] at hb
        subst hb
        rw [dig_iff, ofNat_dig hs]; omega
      · rw [decDigits_step hs, List.mem_append] at hb
        rcases hb with hb | hb
        · exact digits_dig k (n / 10) (by rw [Nat.pow_succ] at h; omega) b hb
        · simp only [List.mem_singleton] at hb
          subst hb
          rw [dig_iff, ofNat_dig (by omega)]; omega

theorem parse_snoc : ∀ (l : List UInt8) (acc a : Nat) (c : UInt8), Go.Lib.parseUint10 acc l = .ok a → Go.Lib.parseUint10 acc (l ++ [c]) = Go.Lib.parseUint10 a [c]
  | [], acc, a, c, h => by
      simp only [Go.Lib.parseUint10] at h
      injection h with h
      subst h
      rfl
  | d :: l, acc, a, c, h => by
      rw [List.cons_append]
      rw [Go.Lib.parseUint10] at h ⊢
      split at h
      · rename_i hd
        rw [if_pos hd]
        split at h
        · cases h
        · rename_i h1
          rw [if_neg h1]
          split at h
          · cases h
          · rename_i h2
            rw [if_neg h2]
            exact parse_snoc l _ a c h
      · cases h
theorem parse_one {a d : Nat} (ha : a < 100000000) (hd : d < 10) : Go.Lib.parseUint10 a [UInt8.ofNat (48 + d)] = .ok (a * 10 + d) := by
  rw [Go.Lib.parseUint10, ofNat_dig hd, if_pos (by omega), if_neg (by omega), if_neg (by omega), Go.Lib.parseUint10]
  congr 1; omega

theorem parse_dec : ∀ (k n : Nat), n < 10 ^ (k + 1) → k ≤ 7 → Go.Lib.parseUint10 0 (Go.Lib.decDigits n) = .ok n
  | 0, n, h, _ => by
      have h' : n < 10 := by simpa using h
      rw [decDigits_low h', parse_one (by omega) h']
      congr 1; omega
  | k + 1, n, h, hk => by
      by_cases hs : n < 10
      · rw [decDigits_low hs, parse_one (by omega) hs]
        congr 1; omega
      · have ih := parse_dec k (n / 10) (by rw [Nat.pow_succ] at h; omega) (by omega)
        have hb : n / 10 < 100000000 := by
          have : n < 10 ^ 9 := Nat.lt_of_lt_of_le h (Nat.pow_le_pow_right (by omega) (by omega))
          omega
        rw [decDigits_step hs, parse_snoc _ _ _ _ ih, parse_one hb (by omega)]
        congr 1; omega

theorem dec_ne (n : Nat) : Go.Lib.decDigits n ≠ [] := by
  by_cases h : n < 10
  · rw [decDigits_low h]; simp
  · rw [decDigits_step h]; simp

theorem atoi_dec {n : Nat} (h : n < 100000) : Go.Lib.atoiAll (Go.Lib.decDigits n) = .ok (n : Int) := by
  have hd := digits_dig 4 n (by simpa using h)
  have hp := parse_dec 4 n (by simpa using h) (by omega)
  have hne := dec_ne n
  generalize Go.Lib.decDigits n = l at hd hp hne
  cases l with
  | nil => exact absurd rfl hne
  | cons c r =>
    have hc := (dig_iff c).1 (hd c (by simp))
    rw [Go.Lib.atoiAll_plain c r (by omega) (by omega)]
    unfold Go.Lib.parseMag
    rw [if_neg (by simp), hp]
    unfold Go.Lib.signless
    simp only
    rw [if_neg (by omega)]

theorem rdNum_dec {n : Nat} {r : List UInt8} (h : n < 100000) (hr : ∀ b, r.head? = some b → dig b = false) : rdNum (Go.Lib.decDigits n ++ r) = some ((n : Int), r) := by
  obtain ⟨h1, h2⟩ := take_while_stop (p := dig) (digits_dig 4 n (by simpa using h)) hr
  unfold rdNum
  rw [h1, h2, atoi_dec h]
  simp only
  rw [itoa_pos (by omega), show ((n : Int)).toNat = n by omega, if_pos rfl]

theorem rdNum_back {s r : List UInt8} {v : Int} (h : rdNum s = some (v, r)) : 0 ≤ v ∧ s = Go.Lib.decDigits v.toNat ++ r := by
  unfold rdNum at h
  split at h
  · rename_i v' hv
    split at h
    · rename_i he
      injection h with h
      injection h with h1 h2
      subst h1
      have h0 : 0 ≤ v' := by
        by_cases hn : v' < 0
        · rw [itoa_neg hn] at he
          have h45 := List.all_takeWhile (p := dig) (l := s)
          rw [← he] at h45
          simp [dig] at h45
        · omega
      refine ⟨h0, ?_⟩
      rw [itoa_pos h0] at he
      rw [he, ← h2, List.takeWhile_append_dropWhile]
    · cases h
  · cases h

/-- One place's word. -/
def rdWord : List UInt8 → Option (C × List UInt8)
  | [] => none
  | b :: r =>
    if b = 88 then (match rdNum r with | some (v, r') => some (⟨1, v, ByteArray.empty⟩, r') | none => none)
    else if b = 45 then (match rdNum r with | some (v, r') => if v = 0 then none else some (⟨2, -v, ByteArray.empty⟩, r') | none => none)
    else if dig b then (match rdNum (b :: r) with | some (v, r') => some (⟨2, v, ByteArray.empty⟩, r') | none => none)
    else some (⟨3, 0, ⟨((b :: r).takeWhile sml).toArray⟩⟩, (b :: r).dropWhile sml)

theorem rdWord_cons (b : UInt8) (r : List UInt8) : rdWord (b :: r) =
    if b = 88 then (match rdNum r with | some (v, r') => some (⟨1, v, ByteArray.empty⟩, r') | none => none)
    else if b = 45 then (match rdNum r with | some (v, r') => if v = 0 then none else some (⟨2, -v, ByteArray.empty⟩, r') | none => none)
    else if dig b then (match rdNum (b :: r) with | some (v, r') => some (⟨2, v, ByteArray.empty⟩, r') | none => none)
    else some (⟨3, 0, ⟨((b :: r).takeWhile sml).toArray⟩⟩, (b :: r).dropWhile sml) := rfl
theorem bl_num (n : Int) : bl (numB n) = Go.Lib.itoa n := by unfold numB; exact bl_mk _

theorem rdWord_back {s r : List UInt8} {c : C} (h : rdWord s = some (c, r)) : s = bl (wordB c) ++ r ∧ (c.k = 1 ∨ c.k = 2 ∨ c.k = 3) ∧ (c.k = 3 → c.n = 0) := by
  cases s with
  | nil => cases h
  | cons b s =>
    rw [rdWord_cons] at h
    split at h
    · rename_i hb
      subst hb
      split at h
      · rename_i v r' hn
        injection h with h; injection h with h1 h2
        subst h1; subst h2
        obtain ⟨h0, e⟩ := rdNum_back hn
        refine ⟨?_, .inl rfl, fun h => by simp at h⟩
        unfold wordB
        rw [if_pos rfl, bl_app, bl_num, itoa_pos h0, e]
        rfl
      · cases h
    · split at h
      · rename_i hb
        subst hb
        split at h
        · rename_i v r' hn
          split at h
          · cases h
          · rename_i hz
            injection h with h; injection h with h1 h2
            subst h1; subst h2
            obtain ⟨h0, e⟩ := rdNum_back hn
            refine ⟨?_, .inr (.inl rfl), fun h => by simp at h⟩
            unfold wordB
            rw [if_neg (by simp), if_pos rfl, bl_num]
            dsimp only
            rw [itoa_neg (by omega), e, show - -v = v by omega]
            rfl
        · cases h
      · split at h
        · split at h
          · rename_i v r' hn
            injection h with h; injection h with h1 h2
            subst h1; subst h2
            obtain ⟨h0, e⟩ := rdNum_back hn
            refine ⟨?_, .inr (.inl rfl), fun h => by simp at h⟩
            unfold wordB
            rw [if_neg (by simp), if_pos rfl, bl_num, itoa_pos h0, e]
          · cases h
        · injection h with h; injection h with h1 h2
          subst h1; subst h2
          refine ⟨?_, .inr (.inr rfl), fun _ => rfl⟩
          unfold wordB
          rw [if_neg (by simp), if_neg (by simp), bl_mk, List.takeWhile_append_dropWhile]

theorem empty_of {s : ByteArray} (h : s.size = 0) : s = ByteArray.empty := bl_inj (by
  have h1 := bl_size s
  rw [h] at h1
  rw [List.eq_nil_of_length_eq_zero h1]
  rfl)

theorem rdWord_leaf {c : C} (h : okC c = true) (hk : c.k ≠ 3) {r : List UInt8} (hr : Stop r) : rdWord (bl (wordB c) ++ r) = some (c, r) := by
  obtain ⟨k, n, s⟩ := c
  have hd : ∀ b, r.head? = some b → dig b = false := fun b hb => (hr b hb).1
  unfold okC at h
  simp only at h hk
  by_cases k1 : k = 1
  · subst k1
    simp at h
    obtain ⟨⟨h1, h2⟩, h3⟩ := h
    have he := empty_of (s := s) (by simpa using h3)
    subst he
    unfold wordB
    rw [if_pos rfl, bl_app, bl_num, itoa_pos h1]
    have := rdNum_dec (n := n.toNat) (r := r) (by omega) hd
    show rdWord (88 :: (Go.Lib.decDigits n.toNat ++ r)) = _
    rw [rdWord_cons, if_pos rfl, this]
    simp only
    rw [show ((n.toNat : Nat) : Int) = n by omega]
  · by_cases k2 : k = 2
    · subst k2
      simp at h
      obtain ⟨⟨h1, h2⟩, h3⟩ := h
      have he := empty_of (s := s) (by simpa using h3)
      subst he
      unfold wordB
      rw [if_neg (by simp), if_pos rfl, bl_num]
      dsimp only
      by_cases hn : n < 0
      · rw [itoa_neg hn]
        have := rdNum_dec (n := (-n).toNat) (r := r) (by omega) hd
        show rdWord (45 :: (Go.Lib.decDigits (-n).toNat ++ r)) = _
        rw [rdWord_cons, if_neg (by decide), if_pos rfl, this]
        simp only
        rw [if_neg (by omega), show -(((-n).toNat : Nat) : Int) = n by omega]
      · rw [itoa_pos (by omega)]
        have := rdNum_dec (n := n.toNat) (r := r) (by omega) hd
        have hdg := digits_dig 4 n.toNat (by simp; omega)
        have hne := dec_ne n.toNat
        generalize Go.Lib.decDigits n.toNat = l at this hdg hne ⊢
        cases l with
        | nil => exact absurd rfl hne
        | cons b l =>
          have hb := hdg b (by simp)
          have hb' := (dig_iff b).1 hb
          rw [List.cons_append] at this ⊢
          rw [rdWord_cons, if_neg (by intro e; subst e; simp at hb'), if_neg (by intro e; subst e; simp at hb'), if_pos hb, this]
          simp only
          rw [show ((n.toNat : Nat) : Int) = n by omega]
    · simp [k1, k2, hk] at h

theorem letters_sml {s : ByteArray} (h : letters s = true) : ∀ b ∈ bl s, sml b = true := by
  unfold letters at h
  rw [List.all_eq_true] at h
  exact fun b hb => h b hb

theorem rdWord_name {c : C} (h : okC c = true) (hk : c.k = 3) {r : List UInt8} (hr : Stop r) : rdWord (bl (wordB c) ++ r) = some (⟨3, 0, c.s⟩, r) := by
  obtain ⟨k, n, s⟩ := c
  simp only at hk
  subst hk
  unfold okC at h
  simp at h
  obtain ⟨_, h⟩ := h
  unfold nameB at h
  simp only [Bool.and_eq_true, decide_eq_true_eq] at h
  have hs := letters_sml h.2
  have hlen : 1 ≤ (bl s).length := by rw [bl_size]; exact h.1.1
  obtain ⟨h1, h2⟩ := take_while_stop (p := sml) hs (r := r) (fun b hb => (hr b hb).2)
  unfold wordB
  rw [if_neg (by simp), if_neg (by simp)]
  simp only
  have hsb : s = ⟨(bl s).toArray⟩ := bl_inj (bl_mk (bl s)).symm
  revert h1 h2 hsb hlen hs
  generalize bl s = l
  intro hs hlen h1 h2 hsb
  cases l with
  | nil => simp at hlen
  | cons b l =>
    have hb := (sml_iff b).1 (hs b (by simp))
    rw [List.cons_append] at h1 h2 ⊢
    rw [rdWord_cons, if_neg (by intro e; subst e; simp at hb), if_neg (by intro e; subst e; simp at hb), if_neg (by rw [dig_iff]; omega), h1, h2, ← hsb]

mutual
/-- A term at the front, what is left, and how many places there may still be. -/
def rtT : Nat → List UInt8 → Option (List C × List UInt8 × Nat)
  | 0, _ => none
  | f + 1, s => match rdWord s with
    | none => none
    | some (c, r) =>
      if c.k = 3 ∧ r.head? = some 40 then
        match rtA f r.tail with
        | none => none
        | some (ks, r', g) => some (⟨3, ks.length, c.s⟩ :: ks.flatten, r', g)
      else some ([c], r, f)
termination_by f _ => (f, 0)
/-- Arguments, and the bracket behind them. -/
def rtA (f : Nat) (s : List UInt8) : Option (List (List C) × List UInt8 × Nat) :=
  match rtT f s with
  | none => none
  | some (t, r, g) =>
    if r.head? = some 41 then some ([t], r.tail, g)
    else if h : r.head? = some 44 ∧ g < f then
      match rtA g r.tail with
      | none => none
      | some (ks, r', g') => some (t :: ks, r', g')
    else none
termination_by (f, 1)
end

theorem head_tail {r : List UInt8} {b : UInt8} (h : r.head? = some b) : r = b :: r.tail := by
  cases r with
  | nil => cases h
  | cons c r => simp at h; subst h; rfl

theorem rt_back : ∀ f, (∀ s t r g, rtT f s = some (t, r, g) → g + t.length = f ∧ 0 < t.length ∧ ∃ u, Txt wordB t u ∧ s = bl u ++ r) ∧
    (∀ s ks r g, rtA f s = some (ks, r, g) → ks ≠ [] ∧ g + ks.flatten.length = f ∧ ∃ us : List ByteArray, us.length = ks.length ∧ (∀ i (h1 : i < ks.length) (h2 : i < us.length), Txt wordB ks[i] us[i]) ∧ s = bl (joinB us) ++ 41 :: r) := by
  intro f
  induction f using Nat.strongRecOn with
  | _ f ih =>
    have hT : ∀ s t r g, rtT f s = some (t, r, g) → g + t.length = f ∧ 0 < t.length ∧ ∃ u, Txt wordB t u ∧ s = bl u ++ r := by
      intro s t r g h
      cases f with
      | zero => rw [rtT] at h; cases h
      | succ f =>
        rw [rtT] at h
        split at h
        · cases h
        · rename_i c r1 hw
          obtain ⟨e, hk, hn⟩ := rdWord_back hw
          split at h
          · rename_i hc
            split at h
            · cases h
            · rename_i ks r2 g2 ha
              injection h with h; injection h with h1 h2; injection h2 with h2 h3
              subst h1; subst h2; subst h3
              obtain ⟨hne, hl, us, hu, hx, es⟩ := (ih f (by omega)).2 _ _ _ _ ha
              refine ⟨by simp only [List.length_cons]; omega, by simp, _, Txt.node (c := ⟨3, ks.length, c.s⟩) hne rfl hu hx, ?_⟩
              have h40 := head_tail hc.2
              have hw3 : wordB ⟨3, ks.length, c.s⟩ = wordB c := by unfold wordB; simp [hc.1]
              rw [e, h40, es, hw3]
              simp only [bl_app]
              show bl (wordB c) ++ 40 :: (bl (joinB us) ++ 41 :: r2) = bl (wordB c) ++ [40] ++ bl (joinB us) ++ [41] ++ r2
              simp
          · rename_i hc
            injection h with h; injection h with h1 h2; injection h2 with h2 h3
            subst h1; subst h2; subst h3
            refine ⟨by simp, by simp, _, Txt.leaf ?_, e⟩
            unfold ari
            split
            · rename_i h3; exact hn h3
            · rfl
    refine ⟨hT, fun s ks r g h => ?_⟩
    rw [rtA] at h
    split at h
    · cases h
    · rename_i t r1 g1 ht
      obtain ⟨h1, h2, u, hu, es⟩ := hT _ _ _ _ ht
      split at h
      · rename_i h41
        injection h with h; injection h with a1 a2; injection a2 with a2 a3
        subst a1; subst a2; subst a3
        refine ⟨by simp, by simpa using h1, [u], rfl, ?_, ?_⟩
        · intro i i1 i2
          have : i = 0 := by simp at i1; omega
          subst this
          exact hu
        · show s = bl u ++ 41 :: r1.tail
          rw [es, ← head_tail h41]
      · split at h
        · rename_i hc
          split at h
          · cases h
          · rename_i ks2 r2 g2 ha
            injection h with h; injection h with a1 a2; injection a2 with a2 a3
            subst a1; subst a2; subst a3
            obtain ⟨hne, hl, us, hul, hx, es2⟩ := (ih g1 hc.2).2 _ _ _ _ ha
            refine ⟨by simp, by simp only [List.flatten_cons, List.length_append]; omega, u :: us, by simp [hul], ?_, ?_⟩
            · intro i i1 i2
              cases i with
              | zero => exact hu
              | succ i => exact hx i (by simpa using i1) (by simpa using i2)
            · have h44 := head_tail hc.1
              rw [es, h44, es2]
              cases us with
              | nil => cases ks2 with
                | nil => exact absurd rfl hne
                | cons => simp at hul
              | cons v us =>
                simp only [joinB, bl_app]
                show bl u ++ 44 :: (bl (joinB (v :: us)) ++ 41 :: r2) = bl u ++ [44] ++ bl (joinB (v :: us)) ++ 41 :: r2
                simp
        · cases h

/-- What can stand behind a term. -/
def Stop2 (r : List UInt8) : Prop := ∀ b, r.head? = some b → dig b = false ∧ sml b = false ∧ b ≠ 40
theorem Stop2.stop {r : List UInt8} (h : Stop2 r) : Stop r := fun b hb => ⟨(h b hb).1, (h b hb).2.1⟩
theorem stop_of (b : UInt8) (r : List UInt8) (h : dig b = false ∧ sml b = false ∧ b ≠ 40) : Stop2 (b :: r) := fun c hc => by
  simp at hc; subst hc; exact h

theorem rtA_all : ∀ (ks : List (List C)) (us : List ByteArray), ks ≠ [] → us.length = ks.length → (∀ k ∈ ks, 0 < k.length) →
    (∀ i (h1 : i < ks.length) (h2 : i < us.length), ∀ f r, Stop2 r → ks[i].length ≤ f → rtT f (bl us[i] ++ r) = some (ks[i], r, f - ks[i].length)) →
    ∀ f r, ks.flatten.length ≤ f → rtA f (bl (joinB us) ++ 41 :: r) = some (ks, r, f - ks.flatten.length)
  | [k], [u], _, _, _, h, f, r, hf => by
      have := h 0 (by simp) (by simp) f (41 :: r) (stop_of _ _ (by decide)) (by simpa using hf)
      simp only [List.getElem_cons_zero] at this
      rw [rtA]
      simp only [joinB]
      rw [this]
      simp
  | k :: k' :: ks, u :: u' :: us, _, hl, hp, h, f, r, hf => by
      have hk := hp k (by simp)
      simp only [List.flatten_cons, List.length_append] at hf
      have h0 := h 0 (by simp) (by simp) f (44 :: (bl (joinB (u' :: us)) ++ 41 :: r)) (stop_of _ _ (by decide)) (by simp only [List.getElem_cons_zero]; omega)
      simp only [List.getElem_cons_zero] at h0
      have ih := rtA_all (k' :: ks) (u' :: us) (by simp) (by simpa using hl) (fun x hx => hp x (by simp [List.mem_cons.1 hx])) (fun i h1 h2 => h (i + 1) (Nat.succ_lt_succ h1) (Nat.succ_lt_succ h2)) (f - k.length) r (by simp only [List.flatten_cons, List.length_append]; omega)
      rw [rtA]
      have e : bl (joinB (u :: u' :: us)) ++ 41 :: r = bl u ++ 44 :: (bl (joinB (u' :: us)) ++ 41 :: r) := by
        simp only [joinB, bl_app]
        show bl u ++ [44] ++ bl (joinB (u' :: us)) ++ 41 :: r = _
        simp
      rw [e, h0]
      dsimp only
      rw [if_neg (by simp), dif_pos ⟨rfl, by omega⟩, List.tail_cons, ih]
      simp only [List.flatten_cons, List.length_append]
      congr 3
      omega
  | [], _, h, _, _, _, _, _, _ => absurd rfl h
  | [_], [], _, h, _, _, _, _, _ => by simp at h
  | [_], _ :: _ :: _, _, h, _, _, _, _, _ => by simp at h
  | _ :: _ :: _, [], _, h, _, _, _, _, _ => by simp at h
  | _ :: _ :: _, [_], _, h, _, _, _, _, _ => by simp at h

theorem txt_pos {t : List C} {u : ByteArray} (h : Txt wordB t u) : 0 < t.length := by cases h <;> simp

theorem rtT_txt {t : List C} {u : ByteArray} (h : Txt wordB t u) : (∀ c ∈ t, okC c = true) → ∀ f r, Stop2 r → t.length ≤ f → rtT f (bl u ++ r) = some (t, r, f - t.length) := by
  induction h with
  | @leaf c h0 =>
    intro hok f r hr hf
    have hc := hok c (by simp)
    simp only [List.length_singleton] at hf ⊢
    obtain ⟨f, rfl⟩ : ∃ g, f = g + 1 := ⟨f - 1, by omega⟩
    rw [rtT]
    by_cases h3 : c.k = 3
    · rw [rdWord_name hc h3 hr.stop]
      have hn : c.n = 0 := by unfold ari at h0; rw [if_pos h3] at h0; exact h0
      simp only
      rw [if_neg (by rintro ⟨_, h40⟩; exact (hr _ h40).2.2 rfl)]
      have : (⟨3, 0, c.s⟩ : C) = c := by obtain ⟨k, n, s⟩ := c; simp only at h3 hn; subst h3; subst hn; rfl
      rw [this]
      rfl
    · rw [rdWord_leaf hc h3 hr.stop]
      simp only
      rw [if_neg (by rintro ⟨h, _⟩; exact h3 h)]
      rfl
  | @node c ks us hne hl hu hk ih =>
    intro hok f r hr hf
    have hc := hok c (by simp)
    have hp : 0 < ks.length := List.length_pos_iff.2 hne
    obtain ⟨h3, hn⟩ := ari_pos (c := c) (by omega)
    simp only [List.length_cons] at hf ⊢
    obtain ⟨f, rfl⟩ : ∃ g, f = g + 1 := ⟨f - 1, by omega⟩
    have e : bl (wordB c ++ lpB ++ joinB us ++ rpB) ++ r = bl (wordB c) ++ 40 :: (bl (joinB us) ++ 41 :: r) := by
      simp only [bl_app]
      show bl (wordB c) ++ [40] ++ bl (joinB us) ++ [41] ++ r = _
      simp
    have ha := rtA_all ks us hne hu (fun k hk' => by
        obtain ⟨i, hi, rfl⟩ := List.mem_iff_getElem.1 hk'
        exact txt_pos (hk i hi (by omega)))
      (fun i h1 h2 f' r' hr' hf' => ih i h1 h2 (fun x hx => hok x (List.mem_cons_of_mem _ (List.mem_flatten.2 ⟨_, List.getElem_mem h1, hx⟩))) f' r' hr' hf') f r (by omega)
    rw [rtT, e, rdWord_name hc h3 (r := 40 :: (bl (joinB us) ++ 41 :: r)) (fun b hb => by simp at hb; subst hb; exact ⟨by decide, by decide⟩)]
    dsimp only
    rw [if_pos ⟨rfl, rfl⟩, List.tail_cons, ha]
    simp only
    have hcn : (⟨3, (ks.length : Int), c.s⟩ : C) = c := by
      obtain ⟨k, n, s⟩ := c
      simp only at h3 hn
      subst h3
      rw [hl, ← hn]
    rw [hcn]
    congr 3
    omega

/-- The term whose text this is. -/
def rdX (s : List UInt8) : Option (List C) := match rtT 40 s with
  | some (t, [], _) => if trm t then some t else none
  | _ => none

theorem textT_txt {t : List C} (ht : trm t = true) : Txt wordB t (textT t) := by
  obtain ⟨u, hu⟩ := txt_all wordB _ t (trm_tree ht)
  have : textT t = u := by unfold textT; rw [if_pos ht, textOf_of hu]
  rw [this]
  exact hu

theorem rdX_text {t : List C} (ht : trm t = true) : rdX (bl (textT t)) = some t := by
  have h := (trm_iff t).1 ht
  have := rtT_txt (textT_txt ht) h.2.2.1 40 [] (fun b hb => by cases hb) h.2.1
  rw [List.append_nil] at this
  unfold rdX
  rw [this]
  simp [ht]

theorem rdX_back {s : List UInt8} {t : List C} (h : rdX s = some t) : trm t = true ∧ bl (textT t) = s := by
  unfold rdX at h
  split at h
  · rename_i t' g hr
    split at h
    · rename_i ht
      injection h with h
      subst h
      refine ⟨ht, ?_⟩
      obtain ⟨_, _, u, hu, es⟩ := (rt_back 40).1 _ _ _ _ hr
      have : textT t' = u := by unfold textT; rw [if_pos ht, textOf_of hu]
      rw [this, es, List.append_nil]
    · cases h
  · cases h

/-- A text is of one term alone. -/
theorem textT_inj {t u : List C} (ht : trm t = true) (hu : trm u = true) (h : textT t = textT u) : t = u := by
  have h1 := rdX_text ht
  rw [h, rdX_text hu] at h1
  injection h1 with h1
  exact h1.symm
theorem textT_ne {t : List C} (ht : trm t = true) : textT t ≠ ByteArray.empty := fun h => by
  have h1 := rdX_text ht
  rw [h] at h1
  have h2 : rdX (bl ByteArray.empty) = none := by
    show rdX [] = none
    unfold rdX
    rw [rtT]
    rfl
  rw [h2] at h1
  cases h1
end Go.Proofs.YthelpghiafbejaaDoor
