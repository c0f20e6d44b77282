import Derived.Test.YtkedckmpjedjoaaQTX1TX2TX4TX3
import Derived.Test.YtkedckmpjedjoaaQOpen2D1D2D3D4D5D6PX1YMYW1TXSTXRYB1YB2YB3RR5
import Derived.Test.YtkedckmpjedjoaaQT5SH0SH1QI5
import Derived.Lib.AtoiAllCases
import Derived.Test.YtkedckmpjedjoaaQW3W4W6
import Derived.Test.YtkedckmpjedjoaaQW5
import Derived.Test.YtkedckmpjedjoaaQT3T4
import Derived.Lib.AtoiErrMem
import Derived.Shelf.Strconv.AtoiAll
import Derived.Test.YtkedckmpjedjoaaQT1Plain4T2
import Derived.Deep.RegionWith
import Derived.Deep.CutRange
/- A strings.Builder of the program: what it holds is told; decimals. -/
namespace Go.Proofs.Ytkedckmpjedjoaa
open Go.RowKit
set_option linter.unusedVariables false
set_option linter.unusedSimpArgs false

theorem bytesL_cells (s : ByteArray) : bys (bytesL s) = Go.Lib.byteCells s.data.toList := by simp [bys, bytesL, Go.Lib.byteCells]
/-- The table of powers of ten is there. -/
def TenT (w : World) : Prop := Go.Lib.TabIs Try.prog w "internal/strconv.uint64pow10" .u64 Go.Lib.pow10Tab
theorem TenT.below {w w' : World} (h : TenT w) (hb : Below w.heap.size w w') : TenT w' := by
  unfold TenT Go.Lib.TabIs World.var? at *
  cases hg : Try.prog.globalNamed "internal/strconv.uint64pow10" with
  | none => simp [hg] at h
  | some g =>
    simp only [hg, Option.bind_some] at h ⊢
    have hlt : g < w.heap.size := by
      rcases Nat.lt_or_ge g w.heap.size with h' | h'
      · exact h'
      · simp [Array.getElem?_eq_none h'] at h
    rw [hb.block g hlt]
    exact h
end Go.Proofs.Ytkedckmpjedjoaa

/- The program: a tree's arguments, written. -/
namespace Go.Proofs.Ytkedckmpjedjoaa
open Go.RowKit
set_option linter.unusedVariables false
set_option linter.unusedSimpArgs false

theorem joinB_snoc : ∀ (us : List ByteArray) (u : ByteArray), us ≠ [] → joinB (us ++ [u]) = joinB us ++ cmB ++ u
  | [], u, h => absurd rfl h
  | [a], u, _ => by simp [joinB]
  | a :: b :: r, u, _ => by
      have ih := joinB_snoc (b :: r) u (by simp)
      rw [List.cons_append, List.cons_append]
      simp only [joinB]
      rw [← List.cons_append, ih]
      simp only [ByteArray.append_assoc]
/-- The arguments so far, with the bracket ahead of them. -/
def preB : List ByteArray → ByteArray
  | [] => ByteArray.empty
  | u :: r => lpB ++ joinB (u :: r)
def betB (us : List ByteArray) : ByteArray := match us with
  | [] => lpB
  | _ => cmB
theorem preB_snoc (us : List ByteArray) (u : ByteArray) : preB (us ++ [u]) = preB us ++ betB us ++ u := by
  cases us with
  | nil => simp [preB, betB, joinB]
  | cons a r =>
    have h := joinB_snoc (a :: r) u (by simp)
    show lpB ++ joinB (a :: (r ++ [u])) = lpB ++ joinB (a :: r) ++ cmB ++ u
    rw [← List.cons_append, h]
    simp only [ByteArray.append_assoc]
theorem betB_size (us : List ByteArray) : (betB us).size = 1 := by cases us <;> rfl

theorem join_size : ∀ (ks : List (List C)) (us : List ByteArray), us.length = ks.length → (∀ i (h1 : i < ks.length) (h2 : i < us.length), us[i].size + 1 ≤ 11 * ks[i].length) → (joinB us).size ≤ 11 * ks.flatten.length
  | [], [], _, _ => by simp [joinB]
  | [k], [u], _, h => by
      have := h 0 (by simp) (by simp)
      simp [joinB] at this ⊢
      omega
  | k :: k' :: ks, u :: u' :: us, hl, h => by
      have h0 := h 0 (by simp) (by simp)
      have ih := join_size (k' :: ks) (u' :: us) (by simpa using hl) (fun i h1 h2 => h (i + 1) (Nat.succ_lt_succ h1) (Nat.succ_lt_succ h2))
      simp only [List.getElem_cons_zero] at h0
      rw [List.flatten_cons, List.length_append]
      simp only [joinB]
      rw [ByteArray.size_append, ByteArray.size_append, show cmB.size = 1 from rfl]
      omega
  | [_], [], hl, _ => by simp at hl
  | [], _ :: _, hl, _ => by simp at hl
  | [_], _ :: _ :: _, hl, _ => by simp at hl
  | _ :: _ :: _, [], hl, _ => by simp at hl
  | _ :: _ :: _, [_], hl, _ => by simp at hl
theorem txt_size {t : List C} {u : ByteArray} (h : Txt wordB t u) : (∀ c ∈ t, okC c = true) → u.size + 1 ≤ 11 * t.length := by
  induction h with
  | @leaf c h0 =>
    intro hok
    have := wordB_size (hok c (by simp))
    simp
    omega
  | @node c ks us hne hl hu hk ih =>
    intro hok
    have h1 := wordB_size (hok c (by simp))
    have h2 := join_size ks us hu (fun i a b => ih i a b (fun d hd => hok d (by simp only [List.mem_cons, List.mem_flatten]; exact .inr ⟨ks[i], List.getElem_mem a, hd⟩)))
    rw [ByteArray.size_append, ByteArray.size_append, ByteArray.size_append, show lpB.size = 1 from rfl, show rpB.size = 1 from rfl, List.length_cons]
    omega

def szK (ks : List (Nat × List (Nat × C))) : Nat := (ks.map fun k => k.2.length).sum
theorem szK_flat (ks : List (Nat × List (Nat × C))) : (ks.map (·.2)).flatten.length = szK ks := by simp [szK, List.length_flatten, Function.comp_def]
theorem szK_step {ks : List (Nat × List (Nat × C))} {j : Nat} (h : j < ks.length) : szK (ks.take (j + 1)) = szK (ks.take j) + ks[j].2.length := by
  unfold szK
  rw [List.take_add_one, List.getElem?_eq_getElem h, List.map_append, List.sum_append]
  simp only [Option.toList_some, List.map_cons, List.map_nil, List.sum_cons, List.sum_nil, Nat.add_zero]
theorem szK_le (ks : List (Nat × List (Nat × C))) (j : Nat) : szK (ks.take j) ≤ szK ks := by
  have h : szK ks = szK (ks.take j) + szK (ks.drop j) := by
    unfold szK
    rw [← List.sum_append, ← List.map_append, List.take_append_drop]
  omega

theorem cell_b0 {w0 w : World} {a : Addr} {v : Value} (h : Below w0.heap.size w0 w) (hc : w0.cell? a = some v) : w.cell? a = some v := (h.cell (World.block_lt_of_cell? w0 a hc)).trans hc

end Go.Proofs.Ytkedckmpjedjoaa

/- The program: a tree written, its text; TrmText. -/
namespace Go.Proofs.Ytkedckmpjedjoaa
open Go.RowKit
set_option linter.unusedVariables false
set_option linter.unusedSimpArgs false

/-- A term's text; none, if places are no term. -/
def textT (t : List C) : ByteArray := if trm t then textOf wordB t else ByteArray.empty

end Go.Proofs.Ytkedckmpjedjoaa

/- Texts read: a reader of a list of bytes, there and back: a text is of one term alone. -/
namespace Go.Proofs.Ytkedckmpjedjoaa
set_option linter.unusedVariables false
set_option linter.unusedSimpArgs false

/-- A text's bytes. -/
def bl (s : ByteArray) : List UInt8 := s.data.toList
theorem bl_app (a b : ByteArray) : bl (a ++ b) = bl a ++ bl b := by simp [bl, ByteArray.data_append]
theorem bl_inj {a b : ByteArray} (h : bl a = bl b) : a = b := ba_ext (Array.toList_inj.1 h)
theorem bl_mk (l : List UInt8) : bl ⟨l.toArray⟩ = l := by simp [bl]
theorem bl_size (s : ByteArray) : (bl s).length = s.size := by unfold bl; rw [Array.length_toList]; rfl

def dig (b : UInt8) : Bool := decide (48 ≤ b.toNat) && decide (b.toNat ≤ 57)
def sml (b : UInt8) : Bool := small (b.toNat : Int)
theorem dig_iff (b : UInt8) : dig b = true ↔ 48 ≤ b.toNat ∧ b.toNat ≤ 57 := by simp [dig]
theorem sml_iff (b : UInt8) : sml b = true ↔ 97 ≤ b.toNat ∧ b.toNat ≤ 122 := by simp [sml, small]; omega

/-- What can stand behind a word. -/
def Stop (r : List UInt8) : Prop := ∀ b, r.head? = some b → dig b = false ∧ sml b = false

theorem take_while_stop {p : UInt8 → Bool} {l r : List UInt8} (hl : ∀ b ∈ l, p b = true) (hr : ∀ b, r.head? = some b → p b = false) : (l ++ r).takeWhile p = l ∧ (l ++ r).dropWhile p = r := by
  have h1 : r.takeWhile p = [] ∧ r.dropWhile p = r := by
    cases r with
    | nil => exact ⟨rfl, rfl⟩
    | cons b r => have := hr b rfl; simp [List.takeWhile, List.dropWhile, this]
  constructor
  · rw [List.takeWhile_append_of_pos hl, h1.1, List.append_nil]
  · rw [List.dropWhile_append_of_pos hl, h1.2]

/-- Decimals at the front, without needless noughts, and what is left. -/
def rdNum (s : List UInt8) : Option (Int × List UInt8) :=
  match Go.Lib.atoiAll (s.takeWhile dig) with
  | .ok v => if Go.Lib.itoa v = s.takeWhile dig then some (v, s.dropWhile dig) else none
  | _ => none

theorem itoa_pos {n : Int} (h : 0 ≤ n) : Go.Lib.itoa n = Go.Lib.decDigits n.toNat := by
  unfold Go.Lib.itoa
  rw [if_neg (by omega)]
theorem itoa_neg {n : Int} (h : n < 0) : Go.Lib.itoa n = 45 :: Go.Lib.decDigits (-n).toNat := by
  unfold Go.Lib.itoa
  rw [if_pos h, show n.natAbs = (-n).toNat by omega]
theorem decDigits_step {n : Nat} (h : ¬ n < 10) : Go.Lib.decDigits n = Go.Lib.decDigits (n / 10) ++ [UInt8.ofNat (48 + n % 10)] := by
  rw [Go.Lib.decDigits, dif_neg h]
theorem decDigits_low {n : Nat} (h : n < 10) : Go.Lib.decDigits n = [UInt8.ofNat (48 + n)] := by
  rw [Go.Lib.decDigits, dif_pos h]
theorem ofNat_dig {d : Nat} (h : d < 10) : (UInt8.ofNat (48 + d)).toNat = 48 + d := by
  simp [UInt8.toNat_ofNat]
  omega

theorem digits_dig : ∀ (k n : Nat), n < 10 ^ (k + 1) → ∀ b ∈ Go.Lib.decDigits n, dig b = true
  | 0, n, h, b, hb => by
      have h' : n < 10 := by simpa using h
      rw [decDigits_low h'] at hb
      simp only [List.mem_singleton] at hb
      subst hb
      rw [dig_iff, ofNat_dig h']; omega
  | k + 1, n, h, b, hb => by
      by_cases hs : n < 10
      · rw [decDigits_low hs] at hb
        simp only [List.mem_singleton] at hb
        subst hb
        rw [dig_iff, ofNat_dig hs]; omega
      · rw [decDigits_step hs, List.mem_append] at hb
        rcases hb with hb | hb
        · exact digits_dig k (n / 10) (by rw [Nat.pow_succ] at h; omega) b hb
        · simp only [List.mem_singleton] at hb
          subst hb
          rw [dig_iff, ofNat_dig (by omega)]; omega

theorem parse_snoc : ∀ (l : List UInt8) (acc a : Nat) (c : UInt8), Go.Lib.parseUint10 acc l = .ok a → Go.Lib.parseUint10 acc (l ++ [c]) = Go.Lib.parseUint10 a [c]
  | [], acc, a, c, h => by
      simp only [Go.Lib.parseUint10] at h
      injection h with h
      subst h
      rfl
  | d :: l, acc, a, c, h => by
      rw [List.cons_append]
      rw [Go.Lib.parseUint10] at h ⊢
      split at h
      · rename_i hd
        rw [if_pos hd]
        split at h
        · cases h
        · rename_i h1
          rw [if_neg h1]
          split at h
          · cases h
          · rename_i h2
            rw [if_neg h2]
            exact parse_snoc l _ a c h
      · cases h
theorem parse_one {a d : Nat} (ha : a < 100000000) (hd : d < 10) : Go.Lib.parseUint10 a [UInt8.ofNat (48 + d)] = .ok (a * 10 + d) := by
  rw [Go.Lib.parseUint10, ofNat_dig hd, if_pos (by omega), if_neg (by omega), if_neg (by omega), Go.Lib.parseUint10]
  congr 1; omega

theorem parse_dec : ∀ (k n : Nat), n < 10 ^ (k + 1) → k ≤ 7 → Go.Lib.parseUint10 0 (Go.Lib.decDigits n) = .ok n
  | 0, n, h, _ => by
      have h' : n < 10 := by simpa using h
      rw [decDigits_low h', parse_one (by omega) h']
      congr 1; omega
  | k + 1, n, h, hk => by
      by_cases hs : n < 10
      · rw [decDigits_low hs, parse_one (by omega) hs]
        congr 1; omega
      · have ih := parse_dec k (n / 10) (by rw [Nat.pow_succ] at h; omega) (by omega)
        have hb : n / 10 < 100000000 := by
          have : n < 10 ^ 9 := Nat.lt_of_lt_of_le h (Nat.pow_le_pow_right (by omega) (by omega))
          omega
        rw [decDigits_step hs, parse_snoc _ _ _ _ ih, parse_one hb (by omega)]
        congr 1; omega

theorem dec_ne (n : Nat) : Go.Lib.decDigits n ≠ [] := by
  by_cases h : n < 10
  · rw [decDigits_low h]; simp
  · rw [decDigits_step h]; simp

theorem atoi_dec {n : Nat} (h : n < 100000) : Go.Lib.atoiAll (Go.Lib.decDigits n) = .ok (n : Int) := by
  have hd := digits_dig 4 n (by simpa using h)
  have hp := parse_dec 4 n (by simpa using h) (by omega)
  have hne := dec_ne n
  generalize Go.Lib.decDigits n = l at hd hp hne
  cases l with
  | nil => exact absurd rfl hne
  | cons c r =>
    have hc := (dig_iff c).1 (hd c (by simp))
    rw [Go.Lib.atoiAll_plain c r (by omega) (by omega)]
    unfold Go.Lib.parseMag
    rw [if_neg (by simp), hp]
    unfold Go.Lib.signless
    simp only
    rw [if_neg (by omega)]

theorem rdNum_dec {n : Nat} {r : List UInt8} (h : n < 100000) (hr : ∀ b, r.head? = some b → dig b = false) : rdNum (Go.Lib.decDigits n ++ r) = some ((n : Int), r) := by
  obtain ⟨h1, h2⟩ := take_while_stop (p := dig) (digits_dig 4 n (by simpa using h)) hr
  unfold rdNum
  rw [h1, h2, atoi_dec h]
  simp only
  rw [itoa_pos (by omega), show ((n : Int)).toNat = n by omega, if_pos rfl]

theorem rdNum_back {s r : List UInt8} {v : Int} (h : rdNum s = some (v, r)) : 0 ≤ v ∧ s = Go.Lib.decDigits v.toNat ++ r := by
  unfold rdNum at h
  split at h
  · rename_i v' hv
    split at h
    · rename_i he
      injection h with h
      injection h with h1 h2
      subst h1
      have h0 : 0 ≤ v' := by
        by_cases hn : v' < 0
        · rw [itoa_neg hn] at he
          have h45 := List.all_takeWhile (p := dig) (l := s)
          rw [← he] at h45
          simp [dig] at h45
        · omega
      refine ⟨h0, ?_⟩
      rw [itoa_pos h0] at he
      rw [he, ← h2, List.takeWhile_append_dropWhile]
    · cases h
  · cases h

/-- One place's word. -/
def rdWord : List UInt8 → Option (C × List UInt8)
  | [] => none
  | b :: r =>
    if b = 88 then (match rdNum r with | some (v, r') => some (⟨1, v, ByteArray.empty⟩, r') | none => none)
    else if b = 45 then (match rdNum r with | some (v, r') => if v = 0 then none else some (⟨2, -v, ByteArray.empty⟩, r') | none => none)
    else if dig b then (match rdNum (b :: r) with | some (v, r') => some (⟨2, v, ByteArray.empty⟩, r') | none => none)
    else some (⟨3, 0, ⟨((b :: r).takeWhile sml).toArray⟩⟩, (b :: r).dropWhile sml)

theorem rdWord_cons (b : UInt8) (r : List UInt8) : rdWord (b :: r) =
    if b = 88 then (match rdNum r with | some (v, r') => some (⟨1, v, ByteArray.empty⟩, r') | none => none)
    else if b = 45 then (match rdNum r with | some (v, r') => if v = 0 then none else some (⟨2, -v, ByteArray.empty⟩, r') | none => none)
    else if dig b then (match rdNum (b :: r) with | some (v, r') => some (⟨2, v, ByteArray.empty⟩, r') | none => none)
    else some (⟨3, 0, ⟨((b :: r).takeWhile sml).toArray⟩⟩, (b :: r).dropWhile sml) := rfl
theorem bl_num (n : Int) : bl (numB n) = Go.Lib.itoa n := by unfold numB; exact bl_mk _

theorem rdWord_back {s r : List UInt8} {c : C} (h : rdWord s = some (c, r)) : s = bl (wordB c) ++ r ∧ (c.k = 1 ∨ c.k = 2 ∨ c.k = 3) ∧ (c.k = 3 → c.n = 0) := by
  cases s with
  | nil => cases h
  | cons b s =>
    rw [rdWord_cons] at h
    split at h
    · rename_i hb
      subst hb
      split at h
      · rename_i v r' hn
        injection h with h; injection h with h1 h2
        subst h1; subst h2
        obtain ⟨h0, e⟩ := rdNum_back hn
        refine ⟨?_, .inl rfl, fun h => by simp at h⟩
        unfold wordB
        rw [if_pos rfl, bl_app, bl_num, itoa_pos h0, e]
        rfl
      · cases h
    · split at h
      · rename_i hb
        subst hb
        split at h
        · rename_i v r' hn
          split at h
          · cases h
          · rename_i hz
            injection h with h; injection h with h1 h2
            subst h1; subst h2
            obtain ⟨h0, e⟩ := rdNum_back hn
            refine ⟨?_, .inr (.inl rfl), fun h => by simp at h⟩
            unfold wordB
            rw [if_neg (by simp), if_pos rfl, bl_num]
            dsimp only
            rw [itoa_neg (by omega), e, show - -v = v by omega]
            rfl
        · cases h
      · split at h
        · split at h
          · rename_i v r' hn
            injection h with h; injection h with h1 h2
            subst h1; subst h2
            obtain ⟨h0, e⟩ := rdNum_back hn
            refine ⟨?_, .inr (.inl rfl), fun h => by simp at h⟩
            unfold wordB
            rw [if_neg (by simp), if_pos rfl, bl_num, itoa_pos h0, e]
          · cases h
        · injection h with h; injection h with h1 h2
          subst h1; subst h2
          refine ⟨?_, .inr (.inr rfl), fun _ => rfl⟩
          unfold wordB
          rw [if_neg (by simp), if_neg (by simp), bl_mk, List.takeWhile_append_dropWhile]

theorem empty_of {s : ByteArray} (h : s.size = 0) : s = ByteArray.empty := bl_inj (by
  have h1 := bl_size s
  rw [h] at h1
  rw [List.eq_nil_of_length_eq_zero h1]
  rfl)

theorem rdWord_leaf {c : C} (h : okC c = true) (hk : c.k ≠ 3) {r : List UInt8} (hr : Stop r) : rdWord (bl (wordB c) ++ r) = some (c, r) := by
  obtain ⟨k, n, s⟩ := c
  have hd : ∀ b, r.head? = some b → dig b = false := fun b hb => (hr b hb).1
  unfold okC at h
  simp only at h hk
  by_cases k1 : k = 1
  · subst k1
    simp at h
    obtain ⟨⟨h1, h2⟩, h3⟩ := h
    have he := empty_of (s := s) (by simpa using h3)
    subst he
    unfold wordB
    rw [if_pos rfl, bl_app, bl_num, itoa_pos h1]
    have := rdNum_dec (n := n.toNat) (r := r) (by omega) hd
    show rdWord (88 :: (Go.Lib.decDigits n.toNat ++ r)) = _
    rw [rdWord_cons, if_pos rfl, this]
    simp only
    rw [show ((n.toNat : Nat) : Int) = n by omega]
  · by_cases k2 : k = 2
    · subst k2
      simp at h
      obtain ⟨⟨h1, h2⟩, h3⟩ := h
      have he := empty_of (s := s) (by simpa using h3)
      subst he
      unfold wordB
      rw [if_neg (by simp), if_pos rfl, bl_num]
      dsimp only
      by_cases hn : n < 0
      · rw [itoa_neg hn]
        have := rdNum_dec (n := (-n).toNat) (r := r) (by omega) hd
        show rdWord (45 :: (Go.Lib.decDigits (-n).toNat ++ r)) = _
        rw [rdWord_cons, if_neg (by decide), if_pos rfl, this]
        simp only
        rw [if_neg (by omega), show -(((-n).toNat : Nat) : Int) = n by omega]
      · rw [itoa_pos (by omega)]
        have := rdNum_dec (n := n.toNat) (r := r) (by omega) hd
        have hdg := digits_dig 4 n.toNat (by simp; omega)
        have hne := dec_ne n.toNat
        generalize Go.Lib.decDigits n.toNat = l at this hdg hne ⊢
        cases l with
        | nil => exact absurd rfl hne
        | cons b l =>
          have hb := hdg b (by simp)
          have hb' := (dig_iff b).1 hb
          rw [List.cons_append] at this ⊢
          rw [rdWord_cons, if_neg (by intro e; subst e; simp at hb'), if_neg (by intro e; subst e; simp at hb'), if_pos hb, this]
          simp only
          rw [show ((n.toNat : Nat) : Int) = n by omega]
    · simp [k1, k2, hk] at h

theorem letters_sml {s : ByteArray} (h : letters s = true) : ∀ b ∈ bl s, sml b = true := by
  unfold letters at h
  rw [List.all_eq_true] at h
  exact fun b hb => h b hb

theorem rdWord_name {c : C} (h : okC c = true) (hk : c.k = 3) {r : List UInt8} (hr : Stop r) : rdWord (bl (wordB c) ++ r) = some (⟨3, 0, c.s⟩, r) := by
  obtain ⟨k, n, s⟩ := c
  simp only at hk
  subst hk
  unfold okC at h
  simp at h
  obtain ⟨_, h⟩ := h
  unfold nameB at h
  simp only [Bool.and_eq_true, decide_eq_true_eq] at h
  have hs := letters_sml h.2
  have hlen : 1 ≤ (bl s).length := by rw [bl_size]; exact h.1.1
  obtain ⟨h1, h2⟩ := take_while_stop (p := sml) hs (r := r) (fun b hb => (hr b hb).2)
  unfold wordB
  rw [if_neg (by simp), if_neg (by simp)]
  simp only
  have hsb : s = ⟨(bl s).toArray⟩ := bl_inj (bl_mk (bl s)).symm
  revert h1 h2 hsb hlen hs
  generalize bl s = l
  intro hs hlen h1 h2 hsb
  cases l with
  | nil => simp at hlen
  | cons b l =>
    have hb := (sml_iff b).1 (hs b (by simp))
    rw [List.cons_append] at h1 h2 ⊢
    rw [rdWord_cons, if_neg (by intro e; subst e; simp at hb), if_neg (by intro e; subst e; simp at hb), if_neg (by rw [dig_iff]; omega), h1, h2, ← hsb]

mutual
/-- A term at the front, what is left, and how many places there may still be. -/
def rtT : Nat → List UInt8 → Option (List C × List UInt8 × Nat)
  | 0, _ => none
  | f + 1, s => match rdWord s with
    | none => none
    | some (c, r) =>
      if c.k = 3 ∧ r.head? = some 40 then
        match rtA f r.tail with
        | none => none
        | some (ks, r', g) => some (⟨3, ks.length, c.s⟩ :: ks.flatten, r', g)
      else some ([c], r, f)
termination_by f _ => (f, 0)
/-- Arguments, and the bracket behind them. -/
def rtA (f : Nat) (s : List UInt8) : Option (List (List C) × List UInt8 × Nat) :=
  match rtT f s with
  | none => none
  | some (t, r, g) =>
    if r.head? = some 41 then some ([t], r.tail, g)
    else if h : r.head? = some 44 ∧ g < f then
      match rtA g r.tail with
      | none => none
      | some (ks, r', g') => some (t :: ks, r', g')
    else none
termination_by (f, 1)
end

theorem head_tail {r : List UInt8} {b : UInt8} (h : r.head? = some b) : r = b :: r.tail := by
  cases r with
  | nil => cases h
  | cons c r => simp at h; subst h; rfl

theorem rt_back : ∀ f, (∀ s t r g, rtT f s = some (t, r, g) → g + t.length = f ∧ 0 < t.length ∧ ∃ u, Txt wordB t u ∧ s = bl u ++ r) ∧
    (∀ s ks r g, rtA f s = some (ks, r, g) → ks ≠ [] ∧ g + ks.flatten.length = f ∧ ∃ us : List ByteArray, us.length = ks.length ∧ (∀ i (h1 : i < ks.length) (h2 : i < us.length), Txt wordB ks[i] us[i]) ∧ s = bl (joinB us) ++ 41 :: r) := by
  intro f
  induction f using Nat.strongRecOn with
  | _ f ih =>
    have hT : ∀ s t r g, rtT f s = some (t, r, g) → g + t.length = f ∧ 0 < t.length ∧ ∃ u, Txt wordB t u ∧ s = bl u ++ r := by
      intro s t r g h
      cases f with
      | zero => rw [rtT] at h; cases h
      | succ f =>
        rw [rtT] at h
        split at h
        · cases h
        · rename_i c r1 hw
          obtain ⟨e, hk, hn⟩ := rdWord_back hw
          split at h
          · rename_i hc
            split at h
            · cases h
            · rename_i ks r2 g2 ha
              injection h with h; injection h with h1 h2; injection h2 with h2 h3
              subst h1; subst h2; subst h3
              obtain ⟨hne, hl, us, hu, hx, es⟩ := (ih f (by omega)).2 _ _ _ _ ha
              refine ⟨by simp only [List.length_cons]; omega, by simp, _, Txt.node (c := ⟨3, ks.length, c.s⟩) hne rfl hu hx, ?_⟩
              have h40 := head_tail hc.2
              have hw3 : wordB ⟨3, ks.length, c.s⟩ = wordB c := by unfold wordB; simp [hc.1]
              rw [e, h40, es, hw3]
              simp only [bl_app]
              show bl (wordB c) ++ 40 :: (bl (joinB us) ++ 41 :: r2) = bl (wordB c) ++ [40] ++ bl (joinB us) ++ [41] ++ r2
              simp
          · rename_i hc
            injection h with h; injection h with h1 h2; injection h2 with h2 h3
            subst h1; subst h2; subst h3
            refine ⟨by simp, by simp, _, Txt.leaf ?_, e⟩
            unfold ari
            split
            · rename_i h3; exact hn h3
            · rfl
    refine ⟨hT, fun s ks r g h => ?_⟩
    rw [rtA] at h
    split at h
    · cases h
    · rename_i t r1 g1 ht
      obtain ⟨h1, h2, u, hu, es⟩ := hT _ _ _ _ ht
      split at h
      · rename_i h41
        injection h with h; injection h with a1 a2; injection a2 with a2 a3
        subst a1; subst a2; subst a3
        refine ⟨by simp, by simpa using h1, [u], rfl, ?_, ?_⟩
        · intro i i1 i2
          have : i = 0 := by simp at i1; omega
          subst this
          exact hu
        · show s = bl u ++ 41 :: r1.tail
          rw [es, ← head_tail h41]
      · split at h
        · rename_i hc
          split at h
          · cases h
          · rename_i ks2 r2 g2 ha
            injection h with h; injection h with a1 a2; injection a2 with a2 a3
            subst a1; subst a2; subst a3
            obtain ⟨hne, hl, us, hul, hx, es2⟩ := (ih g1 hc.2).2 _ _ _ _ ha
            refine ⟨by simp, by simp only [List.flatten_cons, List.length_append]; omega, u :: us, by simp [hul], ?_, ?_⟩
            · intro i i1 i2
              cases i with
              | zero => exact hu
              | succ i => exact hx i (by simpa using i1) (by simpa using i2)
            · have h44 := head_tail hc.1
              rw [es, h44, es2]
              cases us with
              | nil => cases ks2 with
                | nil => exact absurd rfl hne
                | cons => simp at hul
              | cons v us =>
                simp only [joinB, bl_app]
                show bl u ++ 44 :: (bl (joinB (v :: us)) ++ 41 :: r2) = bl u ++ [44] ++ bl (joinB (v :: us)) ++ 41 :: r2
                simp
        · cases h

/-- What can stand behind a term. -/
def Stop2 (r : List UInt8) : Prop := ∀ b, r.head? = some b → dig b = false ∧ sml b = false ∧ b ≠ 40
theorem Stop2.stop {r : List UInt8} (h : Stop2 r) : Stop r := fun b hb => ⟨(h b hb).1, (h b hb).2.1⟩
theorem stop_of (b : UInt8) (r : List UInt8) (h : dig b = false ∧ sml b = false ∧ b ≠ 40) : Stop2 (b :: r) := fun c hc => by
  simp at hc; subst hc; exact h

theorem rtA_all : ∀ (ks : List (List C)) (us : List ByteArray), ks ≠ [] → us.length = ks.length → (∀ k ∈ ks, 0 < k.length) →
    (∀ i (h1 : i < ks.length) (h2 : i < us.length), ∀ f r, Stop2 r → ks[i].length ≤ f → rtT f (bl us[i] ++ r) = some (ks[i], r, f - ks[i].length)) →
    ∀ f r, ks.flatten.length ≤ f → rtA f (bl (joinB us) ++ 41 :: r) = some (ks, r, f - ks.flatten.length)
  | [k], [u], _, _, _, h, f, r, hf => by
      have := h 0 (by simp) (by simp) f (41 :: r) (stop_of _ _ (by decide)) (by simpa using hf)
      simp only [List.getElem_cons_zero] at this
      rw [rtA]
      simp only [joinB]
      rw [this]
      simp
  | k :: k' :: ks, u :: u' :: us, _, hl, hp, h, f, r, hf => by
      have hk := hp k (by simp)
      simp only [List.flatten_cons, List.length_append] at hf
      have h0 := h 0 (by simp) (by simp) f (44 :: (bl (joinB (u' :: us)) ++ 41 :: r)) (stop_of _ _ (by decide)) (by simp only [List.getElem_cons_zero]; omega)
      simp only [List.getElem_cons_zero] at h0
      have ih := rtA_all (k' :: ks) (u' :: us) (by simp) (by simpa using hl) (fun x hx => hp x (by simp [List.mem_cons.1 hx])) (fun i h1 h2 => h (i + 1) (Nat.succ_lt_succ h1) (Nat.succ_lt_succ h2)) (f - k.length) r (by simp only [List.flatten_cons, List.length_append]; omega)
      rw [rtA]
      have e : bl (joinB (u :: u' :: us)) ++ 41 :: r = bl u ++ 44 :: (bl (joinB (u' :: us)) ++ 41 :: r) := by
        simp only [joinB, bl_app]
        show bl u ++ [44] ++ bl (joinB (u' :: us)) ++ 41 :: r = _
        simp
      rw [e, h0]
      dsimp only
      rw [if_neg (by simp), dif_pos ⟨rfl, by omega⟩, List.tail_cons, ih]
      simp only [List.flatten_cons, List.length_append]
      congr 3
      omega
  | [], _, h, _, _, _, _, _, _ => absurd rfl h
  | [_], [], _, h, _, _, _, _, _ => by simp at h
  | [_], _ :: _ :: _, _, h, _, _, _, _, _ => by simp at h
  | _ :: _ :: _, [], _, h, _, _, _, _, _ => by simp at h
  | _ :: _ :: _, [_], _, h, _, _, _, _, _ => by simp at h

theorem txt_pos {t : List C} {u : ByteArray} (h : Txt wordB t u) : 0 < t.length := by cases h <;> simp

theorem rtT_txt {t : List C} {u : ByteArray} (h : Txt wordB t u) : (∀ c ∈ t, okC c = true) → ∀ f r, Stop2 r → t.length ≤ f → rtT f (bl u ++ r) = some (t, r, f - t.length) := by
  induction h with
  | @leaf c h0 =>
    intro hok f r hr hf
    have hc := hok c (by simp)
    simp only [List.length_singleton] at hf ⊢
    obtain ⟨f, rfl⟩ : ∃ g, f = g + 1 := ⟨f - 1, by omega⟩
    rw [rtT]
    by_cases h3 : c.k = 3
    · rw [rdWord_name hc h3 hr.stop]
      have hn : c.n = 0 := by unfold ari at h0; rw [if_pos h3] at h0; exact h0
      simp only
      rw [if_neg (by rintro ⟨_, h40⟩; exact (hr _ h40).2.2 rfl)]
      have : (⟨3, 0, c.s⟩ : C) = c := by obtain ⟨k, n, s⟩ := c; simp only at h3 hn; subst h3; subst hn; rfl
      rw [this]
      rfl
    · rw [rdWord_leaf hc h3 hr.stop]
      simp only
      rw [if_neg (by rintro ⟨h, _⟩; exact h3 h)]
      rfl
  | @node c ks us hne hl hu hk ih =>
    intro hok f r hr hf
    have hc := hok c (by simp)
    have hp : 0 < ks.length := List.length_pos_iff.2 hne
    obtain ⟨h3, hn⟩ := ari_pos (c := c) (by omega)
    simp only [List.length_cons] at hf ⊢
    obtain ⟨f, rfl⟩ : ∃ g, f = g + 1 := ⟨f - 1, by omega⟩
    have e : bl (wordB c ++ lpB ++ joinB us ++ rpB) ++ r = bl (wordB c) ++ 40 :: (bl (joinB us) ++ 41 :: r) := by
      simp only [bl_app]
      show bl (wordB c) ++ [40] ++ bl (joinB us) ++ [41] ++ r = _
      simp
    have ha := rtA_all ks us hne hu (fun k hk' => by
        obtain ⟨i, hi, rfl⟩ := List.mem_iff_getElem.1 hk'
        exact txt_pos (hk i hi (by omega)))
      (fun i h1 h2 f' r' hr' hf' => ih i h1 h2 (fun x hx => hok x (List.mem_cons_of_mem _ (List.mem_flatten.2 ⟨_, List.getElem_mem h1, hx⟩))) f' r' hr' hf') f r (by omega)
    rw [rtT, e, rdWord_name hc h3 (r := 40 :: (bl (joinB us) ++ 41 :: r)) (fun b hb => by simp at hb; subst hb; exact ⟨by decide, by decide⟩)]
    dsimp only
    rw [if_pos ⟨rfl, rfl⟩, List.tail_cons, ha]
    simp only
    have hcn : (⟨3, (ks.length : Int), c.s⟩ : C) = c := by
      obtain ⟨k, n, s⟩ := c
      simp only at h3 hn
      subst h3
      rw [hl, ← hn]
    rw [hcn]
    congr 3
    omega

/-- The term whose text this is. -/
def rdX (s : List UInt8) : Option (List C) := match rtT 40 s with
  | some (t, [], _) => if trm t then some t else none
  | _ => none

theorem textT_txt {t : List C} (ht : trm t = true) : Txt wordB t (textT t) := by
  obtain ⟨u, hu⟩ := txt_all wordB _ t (trm_tree ht)
  have : textT t = u := by unfold textT; rw [if_pos ht, textOf_of hu]
  rw [this]
  exact hu

theorem rdX_text {t : List C} (ht : trm t = true) : rdX (bl (textT t)) = some t := by
  have h := (trm_iff t).1 ht
  have := rtT_txt (textT_txt ht) h.2.2.1 40 [] (fun b hb => by cases hb) h.2.1
  rw [List.append_nil] at this
  unfold rdX
  rw [this]
  simp [ht]

theorem rdX_back {s : List UInt8} {t : List C} (h : rdX s = some t) : trm t = true ∧ bl (textT t) = s := by
  unfold rdX at h
  split at h
  · rename_i t' g hr
    split at h
    · rename_i ht
      injection h with h
      subst h
      refine ⟨ht, ?_⟩
      obtain ⟨_, _, u, hu, es⟩ := (rt_back 40).1 _ _ _ _ hr
      have : textT t' = u := by unfold textT; rw [if_pos ht, textOf_of hu]
      rw [this, es, List.append_nil]
    · cases h
  · cases h

/-- A text is of one term alone. -/
theorem textT_inj {t u : List C} (ht : trm t = true) (hu : trm u = true) (h : textT t = textT u) : t = u := by
  have h1 := rdX_text ht
  rw [h, rdX_text hu] at h1
  injection h1 with h1
  exact h1.symm
theorem textT_ne {t : List C} (ht : trm t = true) : textT t ≠ ByteArray.empty := fun h => by
  have h1 := rdX_text ht
  rw [h] at h1
  have h2 : rdX (bl ByteArray.empty) = none := by
    show rdX [] = none
    unfold rdX
    rw [rtT]
    rfl
  rw [h2] at h1
  cases h1
end Go.Proofs.Ytkedckmpjedjoaa

/- The specification's TrmText at any places; the walk of FnExactTrmText. -/
namespace Go.Proofs.Ytkedckmpjedjoaa
open Go.RowKit
set_option linter.unusedVariables false
set_option linter.unusedSimpArgs false

set_option maxRecDepth 100000 in
set_option maxHeartbeats 1000000 in
theorem specTrmText_any (ao : Option Addr) (cap : Nat) (t : List C) (w : World) (hm : t.length ≤ maxLen) (hA : Row w ao t) (hF : Fit t) :
    Calls Try.prog 178 #[.slice ao t.length cap] w fun e w' => e = .returned (.string (textT t)) ∧ Below w.heap.size w w' := by
  cases ht : trm t with
  | false =>
    have H1 := hide (specTrmOk_any ao cap t w hm hA hF)
    rw [ht] at H1
    have HE := hide (show textT t = ByteArray.empty from by unfold textT; rw [ht]; rfl)
    clear hA hF
    go_enter Try.func178, Try.ntmps178
    go_wp2_with fail
    refine (unhide H1).mono ?_
    rintro e w1 ⟨rfl, hb1⟩
    go_wp2
    go_ret
    exact ⟨by rw [unhide HE]; rfl, hb1⟩
  | true =>
    have he : textT t = textOf wordB t := by unfold textT; rw [ht]; rfl
    rw [he]
    rcases hA with rfl | ⟨b, off, rfl, hA⟩
    · have := trm_len ht; simp at this
    · exact specTrmText_some b off cap t w hA ht hm

theorem tenB {w w' : World} (h : TenT w) (hb : Below w.heap.size w w') : TenT w' := h.below hb

end Go.Proofs.Ytkedckmpjedjoaa

/- The specification's reader of texts, without memory: words one behind the other, what is open; of a term's text it reads the term. -/
namespace Go.Proofs.Ytkedckmpjedjoaa
set_option linter.unusedVariables false
set_option linter.unusedSimpArgs false

/-- The number that digits are; -1, if there are none, or too many. -/
def spVal (d : List UInt8) : Int := d.foldl (fun n c => n * 10 + ((c.toNat : Int) - 48)) 0
def spNum (d : List UInt8) : Int := if d.length = 0 ∨ 5 < d.length then -1 else spVal d
theorem spVal_snoc (d : List UInt8) (c : UInt8) : spVal (d ++ [c]) = spVal d * 10 + ((c.toNat : Int) - 48) := by simp [spVal]
theorem spVal_dec : ∀ (k n : Nat), n < 10 ^ (k + 1) → spVal (Go.Lib.decDigits n) = n
  | 0, n, h => by
      have h' : n < 10 := by simpa using h
      rw [decDigits_low h']
      simp only [spVal, List.foldl_cons, List.foldl_nil]
      rw [ofNat_dig h']; omega
  | k + 1, n, h => by
      by_cases hs : n < 10
      · rw [decDigits_low hs]
        simp only [spVal, List.foldl_cons, List.foldl_nil]
        rw [ofNat_dig hs]; omega
      · rw [decDigits_step hs, spVal_snoc, spVal_dec k (n / 10) (by rw [Nat.pow_succ] at h; omega), ofNat_dig (by omega)]
        omega
theorem spNum_dec {n : Nat} (h : n < 100000) : spNum (Go.Lib.decDigits n) = n := by
  have hl : (Go.Lib.decDigits n).length ≤ 5 := by
    have := decB_size 4 n (by simpa using h)
    unfold decB at this
    rw [← bl_size, bl_mk] at this
    exact this
  have hn : (Go.Lib.decDigits n).length ≠ 0 := fun e => dec_ne n (List.eq_nil_of_length_eq_zero e)
  unfold spNum
  rw [if_neg (by omega), spVal_dec 4 n (by simpa using h)]

/-- One place's word, whatever it is, and what is left. -/
def spWord : List UInt8 → C × List UInt8
  | [] => (⟨0, 0, ByteArray.empty⟩, [])
  | b :: r =>
    if b = 88 then (⟨1, spNum (r.takeWhile dig), ByteArray.empty⟩, r.dropWhile dig)
    else if b = 45 then (⟨2, -spNum (r.takeWhile dig), ByteArray.empty⟩, r.dropWhile dig)
    else if dig b then (⟨2, spNum ((b :: r).takeWhile dig), ByteArray.empty⟩, (b :: r).dropWhile dig)
    else (⟨3, 0, ⟨((b :: r).takeWhile sml).toArray⟩⟩, (b :: r).dropWhile sml)
theorem spWord_cons (b : UInt8) (r : List UInt8) : spWord (b :: r) =
    if b = 88 then (⟨1, spNum (r.takeWhile dig), ByteArray.empty⟩, r.dropWhile dig)
    else if b = 45 then (⟨2, -spNum (r.takeWhile dig), ByteArray.empty⟩, r.dropWhile dig)
    else if dig b then (⟨2, spNum ((b :: r).takeWhile dig), ByteArray.empty⟩, (b :: r).dropWhile dig)
    else (⟨3, 0, ⟨((b :: r).takeWhile sml).toArray⟩⟩, (b :: r).dropWhile sml) := rfl

theorem spWord_leaf {c : C} (h : okC c = true) (hk : c.k ≠ 3) {r : List UInt8} (hr : Stop r) : spWord (bl (wordB c) ++ r) = (c, r) := by
  obtain ⟨k, n, s⟩ := c
  have hd : ∀ b, r.head? = some b → dig b = false := fun b hb => (hr b hb).1
  unfold okC at h
  simp only at h hk
  by_cases k1 : k = 1
  · subst k1
    simp at h
    obtain ⟨⟨h1, h2⟩, h3⟩ := h
    have he := empty_of (s := s) (by simpa using h3)
    subst he
    unfold wordB
    rw [if_pos rfl, bl_app, bl_num, itoa_pos h1]
    obtain ⟨t1, t2⟩ := take_while_stop (p := dig) (digits_dig 4 n.toNat (by simp; omega)) hd
    show spWord (88 :: (Go.Lib.decDigits n.toNat ++ r)) = _
    rw [spWord_cons, if_pos rfl, t1, t2, spNum_dec (by omega), show ((n.toNat : Nat) : Int) = n by omega]
  · by_cases k2 : k = 2
    · subst k2
      simp at h
      obtain ⟨⟨h1, h2⟩, h3⟩ := h
      have he := empty_of (s := s) (by simpa using h3)
      subst he
      unfold wordB
      rw [if_neg (by simp), if_pos rfl, bl_num]
      dsimp only
      by_cases hn : n < 0
      · rw [itoa_neg hn]
        obtain ⟨t1, t2⟩ := take_while_stop (p := dig) (digits_dig 4 (-n).toNat (by simp; omega)) hd
        show spWord (45 :: (Go.Lib.decDigits (-n).toNat ++ r)) = _
        rw [spWord_cons, if_neg (by decide), if_pos rfl, t1, t2, spNum_dec (by omega), show -(((-n).toNat : Nat) : Int) = n by omega]
      · rw [itoa_pos (by omega)]
        have hdg := digits_dig 4 n.toNat (by simp; omega)
        obtain ⟨t1, t2⟩ := take_while_stop (p := dig) hdg hd
        have hv := spNum_dec (n := n.toNat) (by omega)
        have hne := dec_ne n.toNat
        generalize Go.Lib.decDigits n.toNat = l at t1 t2 hv hdg hne ⊢
        cases l with
        | nil => exact absurd rfl hne
        | cons b l =>
          have hb := hdg b (by simp)
          have hb' := (dig_iff b).1 hb
          rw [List.cons_append] at t1 t2 ⊢
          rw [spWord_cons, if_neg (by intro e; subst e; simp at hb'), if_neg (by intro e; subst e; simp at hb'), if_pos hb, t1, t2, hv, show ((n.toNat : Nat) : Int) = n by omega]
    · simp [k1, k2, hk] at h

theorem spWord_name {c : C} (h : okC c = true) (hk : c.k = 3) {r : List UInt8} (hr : Stop r) : spWord (bl (wordB c) ++ r) = (⟨3, 0, c.s⟩, r) := by
  have h1 := rdWord_name h hk hr
  have h2 : bl (wordB c) ≠ [] := by
    unfold okC at h
    rw [if_neg (by omega), if_neg (by omega), if_pos hk] at h
    simp at h
    have hs := h.2
    unfold nameB at hs
    simp only [Bool.and_eq_true, decide_eq_true_eq] at hs
    intro e
    have : wordB c = c.s := by unfold wordB; rw [if_neg (by omega), if_neg (by omega)]
    rw [this] at e
    have := bl_size c.s
    rw [e] at this
    simp at this
    omega
  cases hl : bl (wordB c) with
  | nil => exact absurd hl h2
  | cons b l =>
    rw [hl, List.cons_append] at h1
    rw [rdWord_cons] at h1
    rw [List.cons_append, spWord_cons]
    by_cases e1 : b = 88
    · rw [if_pos e1] at h1
      split at h1
      · injection h1 with h1; injection h1 with h1 _; injection h1 with h1; exact absurd h1 (by decide)
      · cases h1
    · rw [if_neg e1] at h1 ⊢
      by_cases e2 : b = 45
      · rw [if_pos e2] at h1
        split at h1
        · split at h1
          · cases h1
          · injection h1 with h1; injection h1 with h1 _; injection h1 with h1; exact absurd h1 (by decide)
        · cases h1
      · rw [if_neg e2] at h1 ⊢
        by_cases e3 : dig b = true
        · rw [if_pos e3] at h1
          split at h1
          · injection h1 with h1; injection h1 with h1 _; injection h1 with h1; exact absurd h1 (by decide)
          · cases h1
        · rw [if_neg e3] at h1 ⊢
          exact Option.some.inj h1

/-- One argument more for the name that is open last. -/
def bump (t : List C) (o : List Nat) : List C := match o.getLast? with
  | none => t
  | some i => t.modify i fun c => ⟨c.k, c.n + 1, c.s⟩
theorem bump_len (t : List C) (o : List Nat) : (bump t o).length = t.length := by
  unfold bump
  split
  · rfl
  · simp
/-- Brackets that close. -/
def spClose : List UInt8 → List Nat → List UInt8 × List Nat
  | [], o => ([], o)
  | b :: r, o => if b = 41 ∧ o ≠ [] then spClose r o.dropLast else (b :: r, o)
def spComma (r : List UInt8) : List UInt8 := if r.head? = some 44 then r.tail else r

def spRun : Nat → List UInt8 → List C → List Nat → Option (List C)
  | 0, _, t, _ => some t
  | f + 1, l, t, o =>
    if l = [] then some t
    else if (spWord l).2.length = l.length then none
    else if (spWord l).1.k = 3 ∧ (spWord l).2.head? = some 40 then spRun f (spWord l).2.tail (bump t o ++ [(spWord l).1]) (o ++ [t.length])
    else spRun f (spComma (spClose (spWord l).2 o).1) (bump t o ++ [(spWord l).1]) (spClose (spWord l).2 o).2

theorem word_ne {c : C} (h : okC c = true) : bl (wordB c) ≠ [] := by
  intro e
  have hs : (wordB c).size = 0 := by rw [← bl_size, e]; rfl
  unfold wordB at hs
  obtain ⟨h0, h1, h2, _⟩ := okC_parts h
  have hd : ∀ n, (numB n).size ≠ 0 := fun n e => by
    rw [← bl_size, bl_num] at e
    have := List.eq_nil_of_length_eq_zero e
    by_cases hn : n < 0
    · rw [itoa_neg hn] at this; cases this
    · rw [itoa_pos (by omega)] at this; exact dec_ne _ this
  split at hs
  · rw [ByteArray.size_append] at hs
    exact hd c.n (by omega)
  · split at hs
    · exact hd _ hs
    · rename_i k1 k2
      have k3 : c.k = 3 := by omega
      unfold okC at h
      rw [if_neg k1, if_neg k2, if_pos k3] at h
      simp at h
      have hs' := h.2
      unfold nameB at hs'
      simp only [Bool.and_eq_true, decide_eq_true_eq] at hs'
      omega

theorem modify_mid : ∀ (T : List C) (c : C) (S : List C) (g : C → C), (T ++ c :: S).modify T.length g = T ++ g c :: S
  | [], c, S, g => by simp
  | d :: T, c, S, g => by simp [modify_mid T c S g]

theorem spRun_kids : ∀ (ks : List (List C)) (us : List ByteArray), ks ≠ [] → us.length = ks.length →
    (∀ i (h1 : i < ks.length) (h2 : i < us.length), ∀ f r T o, Stop2 r → ks[i].length ≤ f → spRun f (bl us[i] ++ r) T o = spRun (f - ks[i].length) (spComma (spClose r o).1) (bump T o ++ ks[i]) (spClose r o).2) →
    ∀ f r (T S : List C) (c : C) (o : List Nat), ks.flatten.length ≤ f →
      spRun f (bl (joinB us) ++ 41 :: r) (T ++ c :: S) (o ++ [T.length]) = spRun (f - ks.flatten.length) (spComma (spClose r o).1) (T ++ ⟨c.k, c.n + ks.length, c.s⟩ :: (S ++ ks.flatten)) (spClose r o).2
  | [k], [u], _, _, h, f, r, T, S, c, o, hf => by
      have h0 := h 0 (by simp) (by simp) f (41 :: r) (T ++ c :: S) (o ++ [T.length]) (stop_of _ _ (by decide)) (by simpa using hf)
      simp only [List.getElem_cons_zero] at h0
      simp only [joinB]
      rw [h0]
      have hc : spClose (41 :: r) (o ++ [T.length]) = spClose r o := by
        rw [spClose, if_pos ⟨rfl, by simp⟩, List.dropLast_concat]
      have hb : bump (T ++ c :: S) (o ++ [T.length]) = T ++ ⟨c.k, c.n + 1, c.s⟩ :: S := by
        unfold bump
        rw [List.getLast?_concat]
        simp only
        rw [modify_mid]
      rw [hc, hb]
      simp
  | k :: k' :: ks, u :: u' :: us, _, hl, h, f, r, T, S, c, o, hf => by
      simp only [List.flatten_cons, List.length_append] at hf
      have h0 := h 0 (by simp) (by simp) f (44 :: (bl (joinB (u' :: us)) ++ 41 :: r)) (T ++ c :: S) (o ++ [T.length]) (stop_of _ _ (by decide)) (by simp only [List.getElem_cons_zero]; omega)
      simp only [List.getElem_cons_zero] at h0
      have ih := spRun_kids (k' :: ks) (u' :: us) (by simp) (by simpa using hl) (fun i h1 h2 => h (i + 1) (Nat.succ_lt_succ h1) (Nat.succ_lt_succ h2)) (f - k.length) r T (S ++ k) ⟨c.k, c.n + 1, c.s⟩ o (by simp only [List.flatten_cons, List.length_append]; omega)
      have e : bl (joinB (u :: u' :: us)) ++ 41 :: r = bl u ++ 44 :: (bl (joinB (u' :: us)) ++ 41 :: r) := by
        simp only [joinB, bl_app]
        show bl u ++ [44] ++ bl (joinB (u' :: us)) ++ 41 :: r = _
        simp
      have hc : spClose (44 :: (bl (joinB (u' :: us)) ++ 41 :: r)) (o ++ [T.length]) = (44 :: (bl (joinB (u' :: us)) ++ 41 :: r), o ++ [T.length]) := by
        rw [spClose, if_neg (fun h => absurd h.1 (by decide))]
      have hb : bump (T ++ c :: S) (o ++ [T.length]) = T ++ ⟨c.k, c.n + 1, c.s⟩ :: S := by
        unfold bump
        rw [List.getLast?_concat]
        simp only
        rw [modify_mid]
      have hcm : spComma (44 :: (bl (joinB (u' :: us)) ++ 41 :: r)) = bl (joinB (u' :: us)) ++ 41 :: r := by
        simp [spComma]
      rw [e, h0, hc, hb, hcm, List.append_assoc, List.cons_append, ih]
      have e1 : f - k.length - (k' :: ks).flatten.length = f - (k :: k' :: ks).flatten.length := by simp only [List.flatten_cons, List.length_append]; omega
      have e2 : c.n + 1 + ((k' :: ks).length : Int) = c.n + ((k :: k' :: ks).length : Int) := by simp only [List.length_cons]; omega
      have e3 : S ++ k ++ (k' :: ks).flatten = S ++ (k :: k' :: ks).flatten := by rw [show (k :: k' :: ks).flatten = k ++ (k' :: ks).flatten from rfl, List.append_assoc]
      dsimp only
      rw [e1, e2, e3]
  | [], _, h, _, _, _, _, _, _, _, _, _ => absurd rfl h
  | [_], [], _, h, _, _, _, _, _, _, _, _ => by simp at h
  | [_], _ :: _ :: _, _, h, _, _, _, _, _, _, _, _ => by simp at h
  | _ :: _ :: _, [], _, h, _, _, _, _, _, _, _, _ => by simp at h
  | _ :: _ :: _, [_], _, h, _, _, _, _, _, _, _, _ => by simp at h

theorem spRun_txt {t : List C} {u : ByteArray} (h : Txt wordB t u) : (∀ c ∈ t, okC c = true) → ∀ f r T o, Stop2 r → t.length ≤ f →
    spRun f (bl u ++ r) T o = spRun (f - t.length) (spComma (spClose r o).1) (bump T o ++ t) (spClose r o).2 := by
  induction h with
  | @leaf c h0 =>
    intro hok f r T o hr hf
    have hc := hok c (by simp)
    have hne := word_ne hc
    simp only [List.length_singleton] at hf ⊢
    obtain ⟨f, rfl⟩ : ∃ g, f = g + 1 := ⟨f - 1, by omega⟩
    have hlen : ¬ (r.length = (bl (wordB c) ++ r).length) := by
      rw [List.length_append]
      have := List.length_pos_iff.2 hne
      omega
    rw [spRun, if_neg (by simp [hne])]
    by_cases h3 : c.k = 3
    · rw [spWord_name hc h3 hr.stop]
      have hn : c.n = 0 := by unfold ari at h0; rw [if_pos h3] at h0; exact h0
      have hcc : (⟨3, 0, c.s⟩ : C) = c := by obtain ⟨k, n, s⟩ := c; simp only at h3 hn; subst h3; subst hn; rfl
      rw [hcc]
      dsimp only
      rw [if_neg hlen, if_neg (by rintro ⟨_, h40⟩; exact (hr _ h40).2.2 rfl)]
      rfl
    · rw [spWord_leaf hc h3 hr.stop]
      dsimp only
      rw [if_neg hlen, if_neg (by rintro ⟨h, _⟩; exact h3 h)]
      rfl
  | @node c ks us hne hl hu hk ih =>
    intro hok f r T o hr hf
    have hc := hok c (by simp)
    have hwn := word_ne hc
    have hp : 0 < ks.length := List.length_pos_iff.2 hne
    obtain ⟨h3, hn⟩ := ari_pos (c := c) (by omega)
    simp only [List.length_cons] at hf ⊢
    obtain ⟨f, rfl⟩ : ∃ g, f = g + 1 := ⟨f - 1, by omega⟩
    have e : bl (wordB c ++ lpB ++ joinB us ++ rpB) ++ r = bl (wordB c) ++ 40 :: (bl (joinB us) ++ 41 :: r) := by
      simp only [bl_app]
      show bl (wordB c) ++ [40] ++ bl (joinB us) ++ [41] ++ r = _
      simp
    have hka := spRun_kids ks us hne hu
      (fun i h1 h2 f' r' T' o' hr' hf' => ih i h1 h2 (fun x hx => hok x (List.mem_cons_of_mem _ (List.mem_flatten.2 ⟨_, List.getElem_mem h1, hx⟩))) f' r' T' o' hr' hf') f r (bump T o) [] ⟨3, 0, c.s⟩ o (by omega)
    rw [bump_len] at hka
    have hlen : ¬ ((40 :: (bl (joinB us) ++ 41 :: r)).length = (bl (wordB c) ++ 40 :: (bl (joinB us) ++ 41 :: r)).length) := by
      rw [List.length_append]
      have := List.length_pos_iff.2 hwn
      omega
    rw [spRun, e, if_neg (by simp), spWord_name hc h3 (r := 40 :: (bl (joinB us) ++ 41 :: r)) (fun b hb => by simp at hb; subst hb; exact ⟨by decide, by decide⟩)]
    dsimp only
    rw [if_neg hlen, if_pos ⟨rfl, rfl⟩, List.tail_cons, hka]
    have hcn : (⟨3, 0 + (ks.length : Int), c.s⟩ : C) = c := by
      obtain ⟨k, n, s⟩ := c
      simp only at h3 hn
      subst h3
      rw [hl, ← hn, Int.zero_add]
    dsimp only
    rw [hcn]
    simp only [List.nil_append]
    congr 1
    omega

/-- Of a term's text the term is read. -/
theorem spRun_text {t : List C} (ht : trm t = true) : spRun 40 (bl (textT t)) [] [] = some t := by
  have h := (trm_iff t).1 ht
  have := spRun_txt (textT_txt ht) h.2.2.1 40 [] [] [] (fun b hb => by cases hb) h.2.1
  rw [List.append_nil] at this
  rw [this]
  simp only [spClose, spComma, bump]
  cases 40 - t.length with
  | zero => simp [spRun]
  | succ n => simp [spRun]
end Go.Proofs.Ytkedckmpjedjoaa

/- The reader of texts of the program: what it skips, takes, counts; decimals. -/
namespace Go.Proofs.Ytkedckmpjedjoaa
open Go.RowKit
set_option linter.unusedVariables false
set_option linter.unusedSimpArgs false

def mkS (l : List UInt8) : ByteArray := ⟨l.toArray⟩
theorem bl_mkS (l : List UInt8) : bl (mkS l) = l := bl_mk l
theorem mkS_bl (s : ByteArray) : mkS (bl s) = s := bl_inj (bl_mk _)
theorem mkS_size (l : List UInt8) : (mkS l).size = l.length := by rw [← bl_size, bl_mkS]
theorem mkS_take (l : List UInt8) (n : Nat) : (mkS l).extract 0 n = mkS (l.take n) := by
  refine bl_inj ?_
  rw [bl_mkS]
  simp [bl, mkS, ByteArray.data_extract]
theorem mkS_drop (l : List UInt8) (n : Nat) : (mkS l).extract n l.length = mkS (l.drop n) := by
  refine bl_inj ?_
  rw [bl_mkS]
  simp [bl, mkS, ByteArray.data_extract]
  rw [List.take_of_length_le (by simp)]

theorem grownR_set (w : World) (R i : Nat) (v : Value) : w.grownBy (w.setCell ⟨R, i, none⟩ v) (some R) := grownBy_setc w ⟨R, i, none⟩ v
theorem grownR_below {w w' : World} (R : Nat) (hb : Below w.heap.size w w') : w.grownBy w' (some R) := ⟨hb.os, hb.tape, hb.output, hb.size, fun k hk _ => hb.block k hk⟩
theorem grownR_trans {R : Nat} {a b c : World} (h : a.grownBy b (some R)) (k : b.grownBy c (some R)) : a.grownBy c (some R) :=
  ⟨k.os.trans h.os, k.tape.trans h.tape, k.output.trans h.output, Nat.le_trans h.size k.size, fun j hj hn => (k.block j (Nat.lt_of_lt_of_le hj h.size) hn).trans (h.block j hj hn)⟩
theorem grownR_refl (w : World) (R : Nat) : w.grownBy w (some R) := ⟨rfl, rfl, rfl, Nat.le_refl _, fun _ _ _ => rfl⟩

theorem dig_bool (b : UInt8) : dig b = (decide (48 ≤ (b.toNat : Int)) && decide ((b.toNat : Int) ≤ 57)) := by
  unfold dig
  congr 1
  · exact decide_eq_decide.2 (by omega)
  · exact decide_eq_decide.2 (by omega)
theorem sml_bool (b : UInt8) : sml b = (decide (97 ≤ (b.toNat : Int)) && decide ((b.toNat : Int) ≤ 122)) := rfl

set_option maxRecDepth 100000 in
set_option maxHeartbeats 400000 in
theorem isSmallB_any (b : UInt8) (w : World) : Calls Try.prog 180 #[.int .u8 b.toNat] w fun e w' => e = .returned (.bool (sml b)) ∧ w' = w := by
  have hb0 := sml_bool b
  have HB := hide hb0
  clear hb0
  by_cases h1 : 97 ≤ (b.toNat : Int)
  · by_cases h2 : (b.toNat : Int) ≤ 122
    · have hd : sml b = true := by rw [unhide HB]; simp [h1, h2]
      go_enter Try.func180, Try.ntmps180
      go_wp2
      go_ret
      exact ⟨ret_bool (by first | rfl | exact hd.symm), rfl⟩
    · have hd : sml b = false := by rw [unhide HB]; simp [h2]
      have h3 : ¬ (b.toNat : Int) ≤ 122 := h2
      go_enter Try.func180, Try.ntmps180
      go_wp2
      go_ret
      exact ⟨ret_bool (by first | rfl | exact hd.symm), rfl⟩
  · have hd : sml b = false := by rw [unhide HB]; simp [h1]
    go_enter Try.func180, Try.ntmps180
    go_wp2
    go_ret
    exact ⟨ret_bool (by first | rfl | exact hd.symm), rfl⟩

set_option maxRecDepth 100000 in
set_option maxHeartbeats 1000000 in
theorem count_isSmall (l : List UInt8) (hl : l.length ≤ 4611686018427387904) (w : World) :
    Calls Try.prog 179 #[.string (mkS l), .func (.func 180) #[] #[]] w fun e w' => e = .returned (.int .i64 (l.takeWhile sml).length) ∧ w' = w := by
  have hs := mkS_size l
  go_enter Try.func179, Try.ntmps179
  go_wp2
  go_loopw [5] (fun i wr => ∃ (k : Nat), k ≤ l.length ∧ i = .int .i64 k ∧ (∀ b ∈ l.take k, sml b = true) ∧ wr = w) (fun i _ => l.length - (intOf i).toNat)
  case atStart => exact ⟨0, Nat.zero_le _, rfl, fun b hb => by simp at hb, rfl⟩
  case round =>
    obtain ⟨k, hk, rfl, hx, hwr⟩ := hrel
    subst hwr
    have HX := hide hx
    clear hx
    by_cases hlt : k < l.length
    · have hget : (mkS l).data[k]? = some l[k] := by simp [mkS, hlt]
      have hget2 : (mkS l)[k]'(by rw [hs]; exact hlt) = l[k] := by
        show (mkS l).data[k]'_ = _
        simp [mkS]
      have HC := hide (fun (W : World) => isSmallB_any l[k] W)
      obtain ⟨c, hc⟩ : ∃ c, c = l[k] := ⟨_, rfl⟩
      rw [← hc] at HC hget hget2
      have HCE := hide hc
      clear hc
      cases hp : sml c with
      | true =>
        rw [hp] at HC
        go_wp2_with (go_at_call 180; refine (unhide HC _).mono ?_; rintro e w1 ⟨rfl, rfl⟩)
        go_roundw
        case rel =>
          refine ⟨k + 1, by omega, by go_num, fun b hb => ?_, by first | rfl | trivial⟩
          rw [List.take_succ_eq_append_getElem hlt, List.mem_append] at hb
          rcases hb with hb | hb
          · exact unhide HX b hb
          · simp only [List.mem_singleton] at hb
            rw [hb, ← unhide HCE]; exact hp
        case measure => simp [intOf]; omega
      | false =>
        rw [hp] at HC
        go_wp2_with (go_at_call 180; refine (unhide HC _).mono ?_; rintro e w1 ⟨rfl, rfl⟩)
        go_ret
        refine ⟨?_, rfl⟩
        have e1 : l = l.take k ++ l.drop k := (List.take_append_drop k l).symm
        have e2 := (take_while_stop (p := sml) (l := l.take k) (r := l.drop k) (unhide HX) (fun b hb => by
          rw [List.drop_eq_getElem_cons hlt] at hb
          have hb' : l[k] = b := Option.some.inj hb
          rw [← hb', ← unhide HCE]; exact hp)).1
        rw [List.take_append_drop] at e2
        rw [e2, List.length_take, Nat.min_eq_left (by omega)]
        rfl
    · go_wp2
      go_ret
      refine ⟨?_, rfl⟩
      have e2 := (take_while_stop (p := sml) (l := l.take k) (r := l.drop k) (unhide HX) (fun b hb => by
          rw [List.drop_eq_nil_of_le (by omega)] at hb
          cases hb)).1
      rw [List.take_append_drop] at e2
      rw [e2, List.length_take, Nat.min_eq_left (by omega)]
      rfl

theorem prefix_one (l : List UInt8) (c : UInt8) : Go.Lib.hasPrefix l [c] = decide (l.head? = some c) ∧ Go.Lib.trimPrefix l [c] = if l.head? = some c then l.tail else l := by
  cases l with
  | nil => constructor <;> simp [Go.Lib.hasPrefix, Go.Lib.trimPrefix]
  | cons b r =>
    by_cases h : b = c
    · subst h
      constructor <;> simp [Go.Lib.hasPrefix, Go.Lib.trimPrefix]
    · have h' : ¬ c = b := fun e => h e.symm
      constructor <;> simp [Go.Lib.hasPrefix, Go.Lib.trimPrefix, List.isPrefixOf, h, h']

end Go.Proofs.Ytkedckmpjedjoaa

/- The specification's reader of texts: digits, numbers, one place. -/
namespace Go.Proofs.Ytkedckmpjedjoaa
open Go.RowKit
set_option linter.unusedVariables false
set_option linter.unusedSimpArgs false

theorem scan_end {p : UInt8 → Bool} {l : List UInt8} {a j : Nat} (haj : a ≤ j) (hj : j ≤ l.length) (hx : ∀ b ∈ (l.take j).drop a, p b = true) (he : j = l.length ∨ ∃ h : j < l.length, p l[j] = false) :
    (l.drop a).takeWhile p = (l.take j).drop a ∧ (l.drop a).dropWhile p = l.drop j := by
  have e : l.drop a = (l.take j).drop a ++ l.drop j := by
    conv => lhs; rw [← List.take_append_drop j l]
    rw [List.drop_append_of_le_length (by simp; omega)]
  rw [e]
  refine take_while_stop hx (fun b hb => ?_)
  rcases he with he | ⟨h, he⟩
  · rw [List.drop_eq_nil_of_le (by omega)] at hb; cases hb
  · rw [List.drop_eq_getElem_cons h] at hb
    have := Option.some.inj hb
    rw [← this]; exact he
theorem mkS_cut (l : List UInt8) (a j : Nat) : (mkS l).extract a j = mkS ((l.take j).drop a) := by
  refine bl_inj ?_
  rw [bl_mkS]
  simp [bl, mkS, ByteArray.data_extract, List.drop_take]

set_option maxRecDepth 100000 in
set_option maxHeartbeats 1000000 in
theorem digits_any (l : List UInt8) (a : Nat) (ha : a ≤ l.length) (hl : l.length ≤ 1000000000) (w : World) :
    Calls Try.prog 187 #[.string (mkS l), .int .i64 a] w fun e w' => ∃ j : Nat, e = .returned (.int .i64 j) ∧ a ≤ j ∧ j ≤ l.length ∧ ((l.drop a).takeWhile dig = (l.take j).drop a ∧ (l.drop a).dropWhile dig = l.drop j) ∧ w' = w := by
  have hs := mkS_size l
  go_enter Try.func187, Try.ntmps187
  go_wp2
  go_loopw [5] (fun i wr => ∃ (j : Nat), a ≤ j ∧ j ≤ l.length ∧ i = .int .i64 j ∧ (∀ b ∈ (l.take j).drop a, dig b = true) ∧ wr = w) (fun i _ => l.length - (intOf i).toNat)
  case atStart => exact ⟨a, Nat.le_refl _, ha, rfl, fun b hb => (by rw [List.drop_eq_nil_of_le (by simp; omega)] at hb; cases hb), rfl⟩
  case round =>
    obtain ⟨j, haj, hj, rfl, hx, hwr⟩ := hrel
    subst hwr
    have HX := hide hx
    clear hx
    by_cases hlt : j < l.length
    · have hget : (mkS l).data[j]? = some l[j] := by simp [mkS, hlt]
      have hget2 : (mkS l)[j]'(by rw [hs]; exact hlt) = l[j] := by
        show (mkS l).data[j]'_ = _
        simp [mkS]
      obtain ⟨c, hc⟩ : ∃ c, c = l[j] := ⟨_, rfl⟩
      rw [← hc] at hget hget2
      have HCE := hide hc
      clear hc
      have HNO := hide (fun (hp : dig c = false) => scan_end (p := dig) haj (by omega : j ≤ l.length) (unhide HX) (.inr ⟨hlt, by rw [← unhide HCE]; exact hp⟩))
      have HB := hide (show dig c = (decide (48 ≤ (c.toNat : Int)) && decide ((c.toNat : Int) ≤ 57)) from dig_bool c)
      by_cases h1 : 48 ≤ (c.toNat : Int)
      · by_cases h2 : (c.toNat : Int) ≤ 57
        · have hp : dig c = true := by rw [unhide HB]; simp [h1, h2]
          have HP := hide hp
          clear hp
          go_wp2
          go_roundw
          case rel =>
            refine ⟨j + 1, by omega, by omega, by go_num, fun b hb => ?_, by first | rfl | trivial⟩
            rw [List.take_succ_eq_append_getElem hlt, List.drop_append_of_le_length (by simp; omega), List.mem_append] at hb
            rcases hb with hb | hb
            · exact unhide HX b hb
            · simp only [List.mem_singleton] at hb
              rw [hb, ← unhide HCE]; exact unhide HP
          case measure => simp [intOf]; omega
        · have hp : dig c = false := by rw [unhide HB]; simp [h2]
          have HE := hide (unhide HNO hp)
          have h2' : ¬ (c.toNat : Int) ≤ 57 := h2
          clear hp HNO
          go_wp2
          go_ret
          exact ⟨j, rfl, haj, hj, unhide HE, rfl⟩
      · have hp : dig c = false := by rw [unhide HB]; simp [h1]
        have HE := hide (unhide HNO hp)
        have h1' : ¬ 48 ≤ (c.toNat : Int) := h1
        clear hp HNO
        go_wp2
        go_ret
        exact ⟨j, rfl, haj, hj, unhide HE, rfl⟩
    · have HE := hide (scan_end (p := dig) haj (by omega : j ≤ l.length) (unhide HX) (.inl (by omega)))
      go_wp2
      go_ret
      exact ⟨j, rfl, haj, hj, unhide HE, rfl⟩

set_option maxRecDepth 100000 in
set_option maxHeartbeats 1000000 in
theorem num_any (d : List UInt8) (hd : ∀ b ∈ d, dig b = true) (hl : d.length ≤ 1000000000) (w : World) :
    Calls Try.prog 188 #[.string (mkS d)] w fun e w' => e = .returned (.int .i64 (spNum d)) ∧ w' = w := by
  have hs := mkS_size d
  by_cases h0 : d.length = 0
  · have hn : spNum d = -1 := by unfold spNum; rw [if_pos (.inl h0)]
    rw [hn]
    have hs0 : (mkS d).size = 0 := by omega
    go_enter Try.func188, Try.ntmps188
    go_wp2
    go_ret
    exact ⟨rfl, rfl⟩
  by_cases h5 : 5 < d.length
  · have hn : spNum d = -1 := by unfold spNum; rw [if_pos (.inr h5)]
    rw [hn]
    go_enter Try.func188, Try.ntmps188
    go_wp2
    go_ret
    exact ⟨rfl, rfl⟩
  have hn : spNum d = spVal d := by unfold spNum; rw [if_neg (by omega)]
  rw [hn]
  have hval : ∀ k, k ≤ d.length → 0 ≤ spVal (d.take k) ∧ spVal (d.take k) < 10 ^ k := by
    intro k
    induction k with
    | zero => intro _; simp [spVal]
    | succ k ih =>
      intro hk
      have := ih (by omega)
      have hb := (dig_iff _).1 (hd d[k] (List.getElem_mem (by omega)))
      rw [List.take_succ_eq_append_getElem (by omega), spVal_snoc, Int.pow_succ]
      omega
  have hz1 : ((d.length : Int) == 0) = false := beq_eq_false_iff_ne.2 (by omega)
  have hz2 : ¬ (5 < (d.length : Int)) := by omega
  have hz3 : ¬ ((d.length : Int) > 5) := by omega
  have hz4 : ¬ (d.length = 0) := h0
  have HV := hide hval
  have HD := hide hd
  clear hval hd hn
  go_enter Try.func188, Try.ntmps188
  go_wp2
  go_loopw [3, 4] (fun n i wr => ∃ (k : Nat), k ≤ d.length ∧ i = .int .i64 k ∧ n = .int .i64 (spVal (d.take k)) ∧ wr = w) (fun _ i _ => d.length - (intOf i).toNat)
  case atStart => exact ⟨0, Nat.zero_le _, rfl, rfl, rfl⟩
  case round =>
    obtain ⟨k, hk, rfl, rfl, hwr⟩ := hrel
    subst hwr
    by_cases hlt : k < d.length
    · have hget : (mkS d).data[k]? = some d[k] := by simp [mkS, hlt]
      have hget2 : (mkS d)[k]'(by rw [hs]; exact hlt) = d[k] := by
        show (mkS d).data[k]'_ = _
        simp [mkS]
      have hb := (dig_iff _).1 (unhide HD d[k] (List.getElem_mem hlt))
      have hv := unhide HV k hk
      have hstep : spVal (d.take (k + 1)) = spVal (d.take k) * 10 + ((d[k].toNat : Int) - 48) := by rw [List.take_succ_eq_append_getElem hlt, spVal_snoc]
      have hk5 : (10 : Int) ^ k ≤ 10000 := by
        rcases (show k = 0 ∨ k = 1 ∨ k = 2 ∨ k = 3 ∨ k = 4 by omega) with rfl | rfl | rfl | rfl | rfl <;> decide
      obtain ⟨c, hc⟩ : ∃ c, c = d[k] := ⟨_, rfl⟩
      rw [← hc] at hget hget2 hb hstep
      obtain ⟨m, hm⟩ : ∃ m, m = spVal (d.take k) := ⟨_, rfl⟩
      rw [← hm] at hv hstep ⊢
      have HST := hide hstep
      clear hc hm hstep
      have w1 : IntKind.i64.wrap (m * 10) = m * 10 := by simp [IntKind.wrap, IntKind.bits, IntKind.signed]; omega
      have w2 : IntKind.u8.wrap ((c.toNat : Int) - 48) = (c.toNat : Int) - 48 := by simp [IntKind.wrap, IntKind.bits, IntKind.signed]; omega
      have w4 : IntKind.i64.wrap ((c.toNat : Int) - 48) = (c.toNat : Int) - 48 := by simp [IntKind.wrap, IntKind.bits, IntKind.signed]; omega
      have w3 : IntKind.i64.wrap (m * 10 + ((c.toNat : Int) - 48)) = m * 10 + ((c.toNat : Int) - 48) := by simp [IntKind.wrap, IntKind.bits, IntKind.signed]; omega
      go_wp2
      go_roundw
      case rel => exact ⟨k + 1, by omega, by go_num, by rw [unhide HST], by first | rfl | trivial⟩
      case measure => simp [intOf]; omega
    · have hkd : k = d.length := by omega
      subst hkd
      rw [List.take_length]
      go_wp2
      go_ret
      exact ⟨rfl, rfl⟩
end Go.Proofs.Ytkedckmpjedjoaa

/- The specification's reader of texts: one place. -/
namespace Go.Proofs.Ytkedckmpjedjoaa
open Go.RowKit
set_option linter.unusedVariables false
set_option linter.unusedSimpArgs false

/-- One place of a text from a place on. -/
def TookS (l : List UInt8) (a : Nat) (w : World) (e : Ending) (w' : World) : Prop := ∃ (c : C) (j : Nat), e = .returned (.tuple #[.agg #[.int .i64 c.k, .int .i64 c.n, .string c.s], .int .i64 j]) ∧ a ≤ j ∧ j ≤ l.length ∧ spWord (l.drop a) = (c, l.drop j) ∧ Below w.heap.size w w'

theorem spNum_bound {d : List UInt8} (hd : ∀ b ∈ d, dig b = true) : -1 ≤ spNum d ∧ spNum d < 100000 := by
  unfold spNum
  split
  · omega
  · rename_i h
    have hval : ∀ k, k ≤ d.length → 0 ≤ spVal (d.take k) ∧ spVal (d.take k) < 10 ^ k := by
      intro k
      induction k with
      | zero => intro _; simp [spVal]
      | succ k ih =>
        intro hk
        have := ih (by omega)
        have hb := (dig_iff _).1 (hd d[k] (List.getElem_mem (by omega)))
        rw [List.take_succ_eq_append_getElem (by omega), spVal_snoc, Int.pow_succ]
        omega
    have h1 := hval d.length (Nat.le_refl _)
    rw [List.take_length] at h1
    have h2 : (10 : Int) ^ d.length ≤ 100000 := by
      rcases (show d.length = 1 ∨ d.length = 2 ∨ d.length = 3 ∨ d.length = 4 ∨ d.length = 5 by omega) with e | e | e | e | e <;> rw [e] <;> decide
    omega

set_option maxRecDepth 100000 in
set_option maxHeartbeats 2000000 in
theorem l1Take_any (l : List UInt8) (a : Nat) (ha' : a < l.length) (hl : l.length ≤ 1000000000) (w : World) :
    Calls Try.prog 177 #[.string (mkS l), .int .i64 a] w (TookS l a w) := by
  have hs := mkS_size l
  have ha : a ≤ l.length := by omega
  have hget : (mkS l).data[a]? = some l[a] := by simp [mkS, ha']
  have hget2 : (mkS l)[a]'(by rw [hs]; exact ha') = l[a] := by
    show (mkS l).data[a]'_ = _
    simp [mkS]
  have hdr : l.drop a = l[a] :: l.drop (a + 1) := List.drop_eq_getElem_cons ha'
  obtain ⟨b, hb⟩ : ∃ b, b = l[a] := ⟨_, rfl⟩
  rw [← hb] at hget hget2 hdr
  clear hb
  have HW := hide (show spWord (l.drop a) = _ from by rw [hdr, spWord_cons])
  have HDR := hide hdr
  clear hdr
  go_enter Try.func177, Try.ntmps177
  by_cases h1 : (b.toNat : Int) = 88
  · have hb1 : b = 88 := UInt8.toNat_inj.1 (by rw [show (88 : UInt8).toNat = 88 from rfl]; omega)
    have HX := hide (fun (W : World) => (show Calls Try.prog 187 #[.string (mkS l), .int .i64 ((a : Int) + 1)] W _ from digits_any l (a + 1) (by omega) hl W))
    go_wp2_with fail
    refine (unhide HX _).mono ?_
    rintro e w1 ⟨j, rfl, haj, hj, ⟨ht, hd⟩, rfl⟩
    have hall : ∀ c ∈ (l.take j).drop (a + 1), dig c = true := by
      rw [← ht]
      have := List.all_takeWhile (p := dig) (l := l.drop (a + 1))
      rwa [List.all_eq_true] at this
    have HN := hide (fun (W : World) => num_any ((l.take j).drop (a + 1)) hall (by simp; omega) W)
    have hcut : (mkS l).extract (a + 1) j = mkS ((l.take j).drop (a + 1)) := mkS_cut l (a + 1) j
    have hbd := spNum_bound hall
    have q1 : (0 : Int) ≤ ((a : Int) + 1) := by omega
    have q2 : ((a : Int) + 1) ≤ (j : Int) := by omega
    have q3 : (j : Int) ≤ ((mkS l).size : Int) := by omega
    have q4 : ((a : Int) + 1).toNat = (a + 1) := by omega
    have q5 : (j : Int) ≤ (l.length : Int) := by omega
    have e1 : spWord (l.drop a) = (⟨1, spNum ((l.take j).drop (a + 1)), ByteArray.empty⟩, l.drop j) := by rw [unhide HW, if_pos hb1, ht, hd]
    have HE := hide e1
    clear e1
    go_wp2_with fail
    refine (unhide HN _).mono ?_
    rintro e w2 ⟨rfl, rfl⟩
    generalize spNum ((l.take j).drop (a + 1)) = n at HE hbd ⊢
    have hneg : IntKind.i64.wrap (-n) = -n := by simp [IntKind.wrap, IntKind.bits, IntKind.signed]; omega
    have FIN : Hid (TookS l a w (.returned (.tuple #[.agg #[.int .i64 1, .int .i64 (n), .string ByteArray.empty], .int .i64 j])) (w.alloc (.cells #[.int .i64 1, .int .i64 (n), .string ByteArray.empty] 98))) := ⟨⟨1, n, ByteArray.empty⟩, j, rfl, by omega, hj, unhide HE, cell_below _ _⟩
    clear ht hd hall hcut HN HX HW HDR HE
    go_wp2
    exact bodyPost_ret (v := .tuple #[.agg #[.int .i64 1, .int .i64 (n), .string ByteArray.empty], .int .i64 j]) (by simp [results, Try.results177, go_sem]; try rfl) rfl (unhide FIN)
  · have hb1 : ¬ b = 88 := fun e => h1 (by rw [e]; rfl)
    by_cases h2 : (b.toNat : Int) = 45
    · have hb2 : b = 45 := UInt8.toNat_inj.1 (by rw [show (45 : UInt8).toNat = 45 from rfl]; omega)
      have HX := hide (fun (W : World) => (show Calls Try.prog 187 #[.string (mkS l), .int .i64 ((a : Int) + 1)] W _ from digits_any l (a + 1) (by omega) hl W))
      go_wp2_with fail
      refine (unhide HX _).mono ?_
      rintro e w1 ⟨j, rfl, haj, hj, ⟨ht, hd⟩, rfl⟩
      have hall : ∀ c ∈ (l.take j).drop (a + 1), dig c = true := by
        rw [← ht]
        have := List.all_takeWhile (p := dig) (l := l.drop (a + 1))
        rwa [List.all_eq_true] at this
      have HN := hide (fun (W : World) => num_any ((l.take j).drop (a + 1)) hall (by simp; omega) W)
      have hcut : (mkS l).extract (a + 1) j = mkS ((l.take j).drop (a + 1)) := mkS_cut l (a + 1) j
      have hbd := spNum_bound hall
      have q1 : (0 : Int) ≤ ((a : Int) + 1) := by omega
      have q2 : ((a : Int) + 1) ≤ (j : Int) := by omega
      have q3 : (j : Int) ≤ ((mkS l).size : Int) := by omega
      have q4 : ((a : Int) + 1).toNat = (a + 1) := by omega
      have q5 : (j : Int) ≤ (l.length : Int) := by omega
      have e1 : spWord (l.drop a) = (⟨2, -spNum ((l.take j).drop (a + 1)), ByteArray.empty⟩, l.drop j) := by rw [unhide HW, if_neg hb1, if_pos hb2, ht, hd]
      have HE := hide e1
      clear e1
      go_wp2_with fail
      refine (unhide HN _).mono ?_
      rintro e w2 ⟨rfl, rfl⟩
      generalize spNum ((l.take j).drop (a + 1)) = n at HE hbd ⊢
      have hneg : IntKind.i64.wrap (-n) = -n := by simp [IntKind.wrap, IntKind.bits, IntKind.signed]; omega
      have FIN : Hid (TookS l a w (.returned (.tuple #[.agg #[.int .i64 2, .int .i64 (-n), .string ByteArray.empty], .int .i64 j])) (w.alloc (.cells #[.int .i64 2, .int .i64 (-n), .string ByteArray.empty] 98))) := ⟨⟨2, -n, ByteArray.empty⟩, j, rfl, by omega, hj, unhide HE, cell_below _ _⟩
      clear ht hd hall hcut HN HX HW HDR HE
      go_wp2
      exact bodyPost_ret (v := .tuple #[.agg #[.int .i64 2, .int .i64 (-n), .string ByteArray.empty], .int .i64 j]) (by simp [results, Try.results177, go_sem]; try rfl) rfl (unhide FIN)
    · have hb2 : ¬ b = 45 := fun e => h2 (by rw [e]; rfl)
      by_cases hdg : 48 ≤ (b.toNat : Int) ∧ (b.toNat : Int) ≤ 57
      · obtain ⟨h3, h4⟩ := hdg
        have hb3 : dig b = true := by rw [dig_bool]; simp [h3, h4]
        have HX := hide (fun (W : World) => (show Calls Try.prog 187 #[.string (mkS l), .int .i64 a] W _ from digits_any l a (by omega) hl W))
        go_wp2_with fail
        refine (unhide HX _).mono ?_
        rintro e w1 ⟨j, rfl, haj, hj, ⟨ht, hd⟩, rfl⟩
        have hall : ∀ c ∈ (l.take j).drop a, dig c = true := by
          rw [← ht]
          have := List.all_takeWhile (p := dig) (l := l.drop a)
          rwa [List.all_eq_true] at this
        have HN := hide (fun (W : World) => num_any ((l.take j).drop a) hall (by simp; omega) W)
        have hcut : (mkS l).extract a j = mkS ((l.take j).drop a) := mkS_cut l a j
        have hbd := spNum_bound hall
        have q1 : (0 : Int) ≤ a := by omega
        have q2 : a ≤ (j : Int) := by omega
        have q3 : (j : Int) ≤ ((mkS l).size : Int) := by omega
        have q4 : (a : Int).toNat = a := by omega
        have q5 : (j : Int) ≤ (l.length : Int) := by omega
        have e1 : spWord (l.drop a) = (⟨2, spNum ((l.take j).drop a), ByteArray.empty⟩, l.drop j) := by rw [unhide HW, if_neg hb1, if_neg hb2, if_pos hb3, ← unhide HDR, ht, hd]
        have HE := hide e1
        clear e1
        go_wp2_with fail
        refine (unhide HN _).mono ?_
        rintro e w2 ⟨rfl, rfl⟩
        generalize spNum ((l.take j).drop a) = n at HE hbd ⊢
        have hneg : IntKind.i64.wrap (-n) = -n := by simp [IntKind.wrap, IntKind.bits, IntKind.signed]; omega
        have FIN : Hid (TookS l a w (.returned (.tuple #[.agg #[.int .i64 2, .int .i64 (n), .string ByteArray.empty], .int .i64 j])) (w.alloc (.cells #[.int .i64 2, .int .i64 (n), .string ByteArray.empty] 98))) := ⟨⟨2, n, ByteArray.empty⟩, j, rfl, by omega, hj, unhide HE, cell_below _ _⟩
        clear ht hd hall hcut HN HX HW HDR HE
        go_wp2
        exact bodyPost_ret (v := .tuple #[.agg #[.int .i64 2, .int .i64 (n), .string ByteArray.empty], .int .i64 j]) (by simp [results, Try.results177, go_sem]; try rfl) rfl (unhide FIN)
      · have hb3 : ¬ dig b = true := by rw [dig_bool]; simp; omega
        have hk : ¬ 48 ≤ (b.toNat : Int) ∨ ¬ (b.toNat : Int) ≤ 57 := by omega
        have HB1 := hide hb1
        have HB2 := hide hb2
        have HB3 := hide hb3
        have HWX := hide (show spWord (l.drop a) = _ from by rw [unhide HW, if_neg hb1, if_neg hb2, if_neg hb3, ← unhide HDR])
        clear hb1 hb2 hb3 hdg HW HDR
        rcases hk with hk | hk
        · go_wp2
          go_loopw [10] (fun i wr => ∃ (j : Nat), a ≤ j ∧ j ≤ l.length ∧ i = .int .i64 j ∧ (∀ b ∈ (l.take j).drop a, sml b = true) ∧ wr = (w.alloc (.cells #[.int .i64 0, .int .i64 0, .string { data := #[] }] 98))) (fun i _ => l.length - (intOf i).toNat)
          case atStart => exact ⟨a, Nat.le_refl _, ha, rfl, fun b hb => (by rw [List.drop_eq_nil_of_le (by simp; omega)] at hb; cases hb), rfl⟩
          case round =>
            obtain ⟨j, haj, hj, rfl, hx, hwr⟩ := hrel
            subst hwr
            have HX := hide hx
            clear hx
            by_cases hlt : j < l.length
            · have hget : (mkS l).data[j]? = some l[j] := by simp [mkS, hlt]
              have hget2 : (mkS l)[j]'(by rw [hs]; exact hlt) = l[j] := by
                show (mkS l).data[j]'_ = _
                simp [mkS]
              obtain ⟨c, hc⟩ : ∃ c, c = l[j] := ⟨_, rfl⟩
              rw [← hc] at hget hget2
              have HCE := hide hc
              clear hc
              have HNO := hide (fun (hp : sml c = false) => scan_end (p := sml) haj (by omega : j ≤ l.length) (unhide HX) (.inr ⟨hlt, by rw [← unhide HCE]; exact hp⟩))
              have HB := hide (show sml c = (decide (97 ≤ (c.toNat : Int)) && decide ((c.toNat : Int) ≤ 122)) from sml_bool c)
              by_cases h1 : 97 ≤ (c.toNat : Int)
              · by_cases h2 : (c.toNat : Int) ≤ 122
                · have hp : sml c = true := by rw [unhide HB]; simp [h1, h2]
                  have HP := hide hp
                  clear hp
                  go_wp2
                  go_roundw
                  case rel =>
                    refine ⟨j + 1, by omega, by omega, by go_num, fun b hb => ?_, by first | rfl | trivial⟩
                    rw [List.take_succ_eq_append_getElem hlt, List.drop_append_of_le_length (by simp; omega), List.mem_append] at hb
                    rcases hb with hb | hb
                    · exact unhide HX b hb
                    · simp only [List.mem_singleton] at hb
                      rw [hb, ← unhide HCE]; exact unhide HP
                  case measure => simp [intOf]; omega
                · have hp : sml c = false := by rw [unhide HB]; simp [h2]
                  have HE := hide (unhide HNO hp)
                  have h2' : ¬ (c.toNat : Int) ≤ 122 := h2
                  clear hp HNO
                  go_wp2
                  have hcut : (mkS l).extract a j = mkS ((l.take j).drop a) := mkS_cut l a j
                  have q2 : (a : Int) ≤ (j : Int) := by omega
                  have q3 : (j : Int) ≤ ((mkS l).size : Int) := by omega
                  have q5 : (j : Int) ≤ (l.length : Int) := by omega
                  obtain ⟨e1, e2⟩ := unhide HE
                  have e3 : spWord (l.drop a) = (⟨3, 0, mkS ((l.take j).drop a)⟩, l.drop j) := by rw [unhide HWX, e1, e2]; rfl
                  have FIN : Hid (TookS l a w (.returned (.tuple #[.agg #[.int .i64 3, .int .i64 0, .string ((mkS l).extract a j)], .int .i64 j])) (w.alloc (.cells #[.int .i64 3, .int .i64 0, .string ((mkS l).extract a j)] 98))) := ⟨⟨3, 0, mkS ((l.take j).drop a)⟩, j, by rw [hcut], haj, hj, e3, cell_below _ _⟩
                  clear e1 e2 e3 HE hcut
                  go_wp2
                  exact bodyPost_ret (v := .tuple #[.agg #[.int .i64 3, .int .i64 (0), .string ((mkS l).extract a j)], .int .i64 j]) (by simp [results, Try.results177, go_sem]; try rfl) rfl (unhide FIN)
              · have hp : sml c = false := by rw [unhide HB]; simp [h1]
                have HE := hide (unhide HNO hp)
                have h1' : ¬ 97 ≤ (c.toNat : Int) := h1
                clear hp HNO
                go_wp2
                have hcut : (mkS l).extract a j = mkS ((l.take j).drop a) := mkS_cut l a j
                have q2 : (a : Int) ≤ (j : Int) := by omega
                have q3 : (j : Int) ≤ ((mkS l).size : Int) := by omega
                have q5 : (j : Int) ≤ (l.length : Int) := by omega
                obtain ⟨e1, e2⟩ := unhide HE
                have e3 : spWord (l.drop a) = (⟨3, 0, mkS ((l.take j).drop a)⟩, l.drop j) := by rw [unhide HWX, e1, e2]; rfl
                have FIN : Hid (TookS l a w (.returned (.tuple #[.agg #[.int .i64 3, .int .i64 0, .string ((mkS l).extract a j)], .int .i64 j])) (w.alloc (.cells #[.int .i64 3, .int .i64 0, .string ((mkS l).extract a j)] 98))) := ⟨⟨3, 0, mkS ((l.take j).drop a)⟩, j, by rw [hcut], haj, hj, e3, cell_below _ _⟩
                clear e1 e2 e3 HE hcut
                go_wp2
                exact bodyPost_ret (v := .tuple #[.agg #[.int .i64 3, .int .i64 (0), .string ((mkS l).extract a j)], .int .i64 j]) (by simp [results, Try.results177, go_sem]; try rfl) rfl (unhide FIN)
            · have HE := hide (scan_end (p := sml) haj (by omega : j ≤ l.length) (unhide HX) (.inl (by omega)))
              go_wp2
              have hcut : (mkS l).extract a j = mkS ((l.take j).drop a) := mkS_cut l a j
              have q2 : (a : Int) ≤ (j : Int) := by omega
              have q3 : (j : Int) ≤ ((mkS l).size : Int) := by omega
              have q5 : (j : Int) ≤ (l.length : Int) := by omega
              obtain ⟨e1, e2⟩ := unhide HE
              have e3 : spWord (l.drop a) = (⟨3, 0, mkS ((l.take j).drop a)⟩, l.drop j) := by rw [unhide HWX, e1, e2]; rfl
              have FIN : Hid (TookS l a w (.returned (.tuple #[.agg #[.int .i64 3, .int .i64 0, .string ((mkS l).extract a j)], .int .i64 j])) (w.alloc (.cells #[.int .i64 3, .int .i64 0, .string ((mkS l).extract a j)] 98))) := ⟨⟨3, 0, mkS ((l.take j).drop a)⟩, j, by rw [hcut], haj, hj, e3, cell_below _ _⟩
              clear e1 e2 e3 HE hcut
              go_wp2
              exact bodyPost_ret (v := .tuple #[.agg #[.int .i64 3, .int .i64 (0), .string ((mkS l).extract a j)], .int .i64 j]) (by simp [results, Try.results177, go_sem]; try rfl) rfl (unhide FIN)
        · go_wp2
          go_loopw [10] (fun i wr => ∃ (j : Nat), a ≤ j ∧ j ≤ l.length ∧ i = .int .i64 j ∧ (∀ b ∈ (l.take j).drop a, sml b = true) ∧ wr = (w.alloc (.cells #[.int .i64 0, .int .i64 0, .string { data := #[] }] 98))) (fun i _ => l.length - (intOf i).toNat)
          case atStart => exact ⟨a, Nat.le_refl _, ha, rfl, fun b hb => (by rw [List.drop_eq_nil_of_le (by simp; omega)] at hb; cases hb), rfl⟩
          case round =>
            obtain ⟨j, haj, hj, rfl, hx, hwr⟩ := hrel
            subst hwr
            have HX := hide hx
            clear hx
            by_cases hlt : j < l.length
            · have hget : (mkS l).data[j]? = some l[j] := by simp [mkS, hlt]
              have hget2 : (mkS l)[j]'(by rw [hs]; exact hlt) = l[j] := by
                show (mkS l).data[j]'_ = _
                simp [mkS]
              obtain ⟨c, hc⟩ : ∃ c, c = l[j] := ⟨_, rfl⟩
              rw [← hc] at hget hget2
              have HCE := hide hc
              clear hc
              have HNO := hide (fun (hp : sml c = false) => scan_end (p := sml) haj (by omega : j ≤ l.length) (unhide HX) (.inr ⟨hlt, by rw [← unhide HCE]; exact hp⟩))
              have HB := hide (show sml c = (decide (97 ≤ (c.toNat : Int)) && decide ((c.toNat : Int) ≤ 122)) from sml_bool c)
              by_cases h1 : 97 ≤ (c.toNat : Int)
              · by_cases h2 : (c.toNat : Int) ≤ 122
                · have hp : sml c = true := by rw [unhide HB]; simp [h1, h2]
                  have HP := hide hp
                  clear hp
                  go_wp2
                  go_roundw
                  case rel =>
                    refine ⟨j + 1, by omega, by omega, by go_num, fun b hb => ?_, by first | rfl | trivial⟩
                    rw [List.take_succ_eq_append_getElem hlt, List.drop_append_of_le_length (by simp; omega), List.mem_append] at hb
                    rcases hb with hb | hb
                    · exact unhide HX b hb
                    · simp only [List.mem_singleton] at hb
                      rw [hb, ← unhide HCE]; exact unhide HP
                  case measure => simp [intOf]; omega
                · have hp : sml c = false := by rw [unhide HB]; simp [h2]
                  have HE := hide (unhide HNO hp)
                  have h2' : ¬ (c.toNat : Int) ≤ 122 := h2
                  clear hp HNO
                  go_wp2
                  have hcut : (mkS l).extract a j = mkS ((l.take j).drop a) := mkS_cut l a j
                  have q2 : (a : Int) ≤ (j : Int) := by omega
                  have q3 : (j : Int) ≤ ((mkS l).size : Int) := by omega
                  have q5 : (j : Int) ≤ (l.length : Int) := by omega
                  obtain ⟨e1, e2⟩ := unhide HE
                  have e3 : spWord (l.drop a) = (⟨3, 0, mkS ((l.take j).drop a)⟩, l.drop j) := by rw [unhide HWX, e1, e2]; rfl
                  have FIN : Hid (TookS l a w (.returned (.tuple #[.agg #[.int .i64 3, .int .i64 0, .string ((mkS l).extract a j)], .int .i64 j])) (w.alloc (.cells #[.int .i64 3, .int .i64 0, .string ((mkS l).extract a j)] 98))) := ⟨⟨3, 0, mkS ((l.take j).drop a)⟩, j, by rw [hcut], haj, hj, e3, cell_below _ _⟩
                  clear e1 e2 e3 HE hcut
                  go_wp2
                  exact bodyPost_ret (v := .tuple #[.agg #[.int .i64 3, .int .i64 (0), .string ((mkS l).extract a j)], .int .i64 j]) (by simp [results, Try.results177, go_sem]; try rfl) rfl (unhide FIN)
              · have hp : sml c = false := by rw [unhide HB]; simp [h1]
                have HE := hide (unhide HNO hp)
                have h1' : ¬ 97 ≤ (c.toNat : Int) := h1
                clear hp HNO
                go_wp2
                have hcut : (mkS l).extract a j = mkS ((l.take j).drop a) := mkS_cut l a j
                have q2 : (a : Int) ≤ (j : Int) := by omega
                have q3 : (j : Int) ≤ ((mkS l).size : Int) := by omega
                have q5 : (j : Int) ≤ (l.length : Int) := by omega
                obtain ⟨e1, e2⟩ := unhide HE
                have e3 : spWord (l.drop a) = (⟨3, 0, mkS ((l.take j).drop a)⟩, l.drop j) := by rw [unhide HWX, e1, e2]; rfl
                have FIN : Hid (TookS l a w (.returned (.tuple #[.agg #[.int .i64 3, .int .i64 0, .string ((mkS l).extract a j)], .int .i64 j])) (w.alloc (.cells #[.int .i64 3, .int .i64 0, .string ((mkS l).extract a j)] 98))) := ⟨⟨3, 0, mkS ((l.take j).drop a)⟩, j, by rw [hcut], haj, hj, e3, cell_below _ _⟩
                clear e1 e2 e3 HE hcut
                go_wp2
                exact bodyPost_ret (v := .tuple #[.agg #[.int .i64 3, .int .i64 (0), .string ((mkS l).extract a j)], .int .i64 j]) (by simp [results, Try.results177, go_sem]; try rfl) rfl (unhide FIN)
            · have HE := hide (scan_end (p := sml) haj (by omega : j ≤ l.length) (unhide HX) (.inl (by omega)))
              go_wp2
              have hcut : (mkS l).extract a j = mkS ((l.take j).drop a) := mkS_cut l a j
              have q2 : (a : Int) ≤ (j : Int) := by omega
              have q3 : (j : Int) ≤ ((mkS l).size : Int) := by omega
              have q5 : (j : Int) ≤ (l.length : Int) := by omega
              obtain ⟨e1, e2⟩ := unhide HE
              have e3 : spWord (l.drop a) = (⟨3, 0, mkS ((l.take j).drop a)⟩, l.drop j) := by rw [unhide HWX, e1, e2]; rfl
              have FIN : Hid (TookS l a w (.returned (.tuple #[.agg #[.int .i64 3, .int .i64 0, .string ((mkS l).extract a j)], .int .i64 j])) (w.alloc (.cells #[.int .i64 3, .int .i64 0, .string ((mkS l).extract a j)] 98))) := ⟨⟨3, 0, mkS ((l.take j).drop a)⟩, j, by rw [hcut], haj, hj, e3, cell_below _ _⟩
              clear e1 e2 e3 HE hcut
              go_wp2
              exact bodyPost_ret (v := .tuple #[.agg #[.int .i64 3, .int .i64 (0), .string ((mkS l).extract a j)], .int .i64 j]) (by simp [results, Try.results177, go_sem]; try rfl) rfl (unhide FIN)
end Go.Proofs.Ytkedckmpjedjoaa

/- The reader of texts of the program: decimals. -/
namespace Go.Proofs.Ytkedckmpjedjoaa
open Go.RowKit
set_option linter.unusedVariables false
set_option linter.unusedSimpArgs false

theorem tw_take (p : UInt8 → Bool) (l : List UInt8) : l.take (l.takeWhile p).length = l.takeWhile p ∧ l.drop (l.takeWhile p).length = l.dropWhile p ∧ (l.takeWhile p).length ≤ l.length := by
  have h := List.takeWhile_append_dropWhile (p := p) (l := l)
  refine ⟨?_, ?_, ?_⟩
  · conv => lhs; arg 2; rw [← h]
    exact List.take_left' rfl
  · conv => lhs; arg 2; rw [← h]
    exact List.drop_left' rfl
  · have h2 := congrArg List.length h
    rw [List.length_append] at h2
    omega

/-- What decimals are, of that kind and with that sign. -/
def numRes (k sg : Int) (l : List UInt8) : Option (C × List UInt8) := match rdNum l with
  | some (v, r) => if v = 0 ∧ sg < 0 then none else some (⟨k, sg * v, ByteArray.empty⟩, r)
  | none => none

theorem text_ne {l m : List UInt8} (h : l ≠ m) : ((mkS l).toList == (mkS m).toList) = false := by
  rw [ByteArray.toList_eq, ByteArray.toList_eq]
  simp only [beq_eq_false_iff_ne]
  exact fun e => h (by have : bl (mkS l) = bl (mkS m) := e; rwa [bl_mkS, bl_mkS] at this)

end Go.Proofs.Ytkedckmpjedjoaa

/- The reader of texts of the program: names with arguments, terms. -/
namespace Go.Proofs.Ytkedckmpjedjoaa
open Go.RowKit Go.Shelf
set_option linter.unusedVariables false
set_option linter.unusedSimpArgs false

/-- A tree in blocks of S, with as many arguments as there are. -/
def Trg (S : Nat → Prop) (W : World) : Nat → Nat → List (Nat × C) → Prop
  | 0, _, _ => False
  | f + 1, p, z => ∃ (c : C) (ks : List (Nat × List (Nat × C))) (ao : Option Addr) (cap : Nat), z = (p, c) :: (ks.map (·.2)).flatten ∧ S p ∧ ks.length ≤ 1000 ∧ Node W p c (.slice ao ks.length cap) ∧
      (ks = [] ∨ ∃ q, ao = some ⟨q, 0, none⟩ ∧ S q ∧ ∀ i, (h : i < ks.length) → W.cell? ⟨q, i, none⟩ = some (.pointer (some ⟨ks[i].1, 0, none⟩))) ∧ ∀ k ∈ ks, Trg S W f k.1 k.2

theorem Trg.kept {S S' : Nat → Prop} {W W' : World} (hS : ∀ b, S b → S' b) (hk : ∀ b, S b → W'.heap[b]? = W.heap[b]?) : ∀ {f p : Nat} {z : List (Nat × C)}, Trg S W f p z → Trg S' W' f p z
  | f + 1, p, z, ⟨c, ks, ao, cap, e, hp, hl, hn, hr, hs⟩ => ⟨c, ks, ao, cap, e, hS p hp, hl, (hk p hp).trans hn, hr.imp_right fun ⟨q, e, hq, h⟩ => ⟨q, e, hS q hq, fun i hi => (World.cell?_of_block (a := ⟨q, i, none⟩) (hk q hq)).trans (h i hi)⟩, fun k hm => (hs k hm).kept hS hk⟩
theorem Trg.mono {S : Nat → Prop} {W : World} : ∀ {f g p : Nat} {z : List (Nat × C)}, Trg S W f p z → f ≤ g → Trg S W g p z
  | f + 1, g + 1, p, z, ⟨c, ks, ao, cap, e, hp, hl, hn, hr, hs⟩, h => ⟨c, ks, ao, cap, e, hp, hl, hn, hr, fun k hk => (hs k hk).mono (by omega)⟩
theorem Trg.shp {S : Nat → Prop} {W : World} {n₀ : Nat} (hS : ∀ b, S b → b < n₀) : ∀ {f p : Nat} {z : List (Nat × C)}, Trg S W f p z → Shp n₀ W f p (z.map (·.1)) ∧ ∀ x ∈ z, Held n₀ W x
  | f + 1, p, z, ⟨c, ks, ao, cap, e, hp, hl, hn, hr, hs⟩ => by
      subst e
      refine ⟨⟨ks.map (fun k => (k.1, k.2.map (·.1))), ao, cap, ?_, hS p hp, by rw [List.length_map]; unfold maxLen; omega, by rw [List.length_map]; exact hn.cell, ?_, ?_⟩, ?_⟩
      · simp [List.map_flatten, List.map_map, Function.comp_def]
      · rcases hr with hr | ⟨q, e, hq, h⟩
        · exact .inl (by rw [hr]; rfl)
        · refine .inr ⟨q, e, hS q hq, fun i hi => ?_⟩
          rw [List.getElem_map]
          exact h i (by simpa using hi)
      · intro k hk
        obtain ⟨k', hk', rfl⟩ := List.mem_map.1 hk
        exact ((hs k' hk').shp hS).1
      · intro x hx
        rcases List.mem_cons.1 hx with rfl | hx
        · exact ⟨hS p hp, hn.cells.1, hn.cells.2.1, hn.cells.2.2⟩
        · obtain ⟨l, hl', hx⟩ := List.mem_flatten.1 hx
          obtain ⟨k, hk, rfl⟩ := List.mem_map.1 hl'
          exact ((hs k hk).shp hS).2 x hx

theorem Node.setN' {W : World} {p : Nat} {c : C} {v : Value} (x : Int) (h : Node W p c v) : Node (W.setCell ⟨p, 1, none⟩ (.int .i64 x)) p ⟨c.k, x, c.s⟩ v := by
  obtain ⟨hlt, hk⟩ := Array.getElem?_eq_some_iff.1 h
  show (W.heap.modify p _)[p]? = _
  rw [Array.getElem?_eq_getElem (by rw [Array.size_modify]; exact hlt), Array.getElem_modify_self, hk]
  rfl
theorem Node.frozenN' {W : World} {p : Nat} {c : C} {v : Value} (h : Node W p c v) : W.frozen? ⟨p, 1, none⟩ = false := by simp [World.frozen?, show W.heap[p]? = _ from h]

/-- How far name has come: so many arguments are laid. -/
structure KidsG (wb : World) (R f : Nat) (nm : List UInt8) (v : Value) (zs : List (Nat × List (Nat × C))) (wr : World) : Prop where
  node : Node wr wb.heap.size ⟨3, zs.length, mkS nm⟩ v
  row : wr.ownsRow wb.heap.size 100 1 v zs.length (zs.map fun x => .pointer (some ⟨x.1, 0, none⟩))
  kids : ∀ x ∈ zs, Trg (Fr (wb.heap.size + 1) wr.heap.size wb.heap.size v) wr f x.1 x.2
  grown : wb.grownBy wr (some R)

theorem kidsG_node {wb wr w2 w3 : World} {R f p : Nat} {nm : List UInt8} {v : Value} {zs : List (Nat × List (Nat × C))} (hR : R < wb.heap.size) (hK : KidsG wb R f nm v zs wr)
    (hb : wr.grownBy w2 (some R)) (hgrow : (w2.alloc (.cells #[.pointer (some ⟨p, 0, none⟩)] 100)).grownBy w3 v.ownBlock) : Node w3 wb.heap.size ⟨3, zs.length, mkS nm⟩ v := by
  have hs := hb.size
  have hl := hK.node.lt
  refine (hgrow.block _ (by simp; omega) (hK.node.not_row hK.row)).trans ?_
  exact (Below.heap_alloc w2 _ _ (by omega)).trans ((hb.block _ hl (fun e => by have := Option.some.inj e; omega)).trans hK.node)

theorem kidsG_step {wb wr w2 w3 : World} {R f p g' cap' : Nat} {nm : List UInt8} {v : Value} {zs : List (Nat × List (Nat × C))} {z : List (Nat × C)} (hR : R < wb.heap.size) (hK : KidsG wb R f nm v zs wr)
    (hb : wr.grownBy w2 (some R)) (hT : Trg (fun b => wr.heap.size ≤ b ∧ b < w2.heap.size) w2 f p z)
    (hown' : w3.ownsRow wb.heap.size 100 1 (.slice (some ⟨g', 0, none⟩) (zs.length + 1) cap') (zs.length + 1) (zs.map (fun x => .pointer (some ⟨x.1, 0, none⟩)) ++ [.pointer (some ⟨p, 0, none⟩)]))
    (hgrow : (w2.alloc (.cells #[.pointer (some ⟨p, 0, none⟩)] 100)).grownBy w3 v.ownBlock) (hat : v.ownBlock = some g' ∨ g' = w2.heap.size + 1) :
    KidsG wb R f nm (.slice (some ⟨g', 0, none⟩) (zs.length + 1) cap') (zs ++ [(p, z)]) ((w3.setCell ⟨wb.heap.size, 3, none⟩ (.slice (some ⟨g', 0, none⟩) (zs.length + 1) cap')).setCell ⟨wb.heap.size, 1, none⟩ (.int .i64 (zs.length + 1))) ∧
      ((w3.setCell ⟨wb.heap.size, 3, none⟩ (.slice (some ⟨g', 0, none⟩) (zs.length + 1) cap')).setCell ⟨wb.heap.size, 1, none⟩ (.int .i64 (zs.length + 1))).heap[R]? = w2.heap[R]? := by
  have hn3 := kidsG_node hR hK hb hgrow
  obtain ⟨h3, h4, h5, h7⟩ := hK
  have hs := hb.size
  have hl := h3.lt
  have hs3 := hgrow.size
  simp at hs3
  have hsz : ((w3.setCell ⟨wb.heap.size, 3, none⟩ (.slice (some ⟨g', 0, none⟩) (zs.length + 1) cap')).setCell ⟨wb.heap.size, 1, none⟩ (.int .i64 (zs.length + 1))).heap.size = w3.heap.size := by simp
  have hrowge : ∀ j, v.ownBlock = some j → wb.heap.size ≤ j := fun j e => by
    rcases h4.2 with ⟨rfl, _⟩ | ⟨g, cap, cur, rfl, hge, _⟩
    · simp [Value.ownBlock] at e
    · obtain rfl : g = j := by simpa [Value.ownBlock] using e
      exact hge
  have far : ∀ b, b < w2.heap.size → b ≠ wb.heap.size → some b ≠ v.ownBlock → ((w3.setCell ⟨wb.heap.size, 3, none⟩ (.slice (some ⟨g', 0, none⟩) (zs.length + 1) cap')).setCell ⟨wb.heap.size, 1, none⟩ (.int .i64 (zs.length + 1))).heap[b]? = w2.heap[b]? := fun b hb1 hb2 hb3 =>
    (Below.heap_setCell _ _ _ b (fun e => hb2 e)).trans ((Below.heap_setCell _ _ _ b (fun e => hb2 e)).trans ((hgrow.block b (by simp; omega) hb3).trans (Below.heap_alloc w2 _ b hb1)))
  have notg : ∀ b, b < w2.heap.size → some b ≠ v.ownBlock → some b ≠ (Value.slice (some ⟨g', 0, none⟩) (zs.length + 1) cap').ownBlock := fun b hb1 hb2 e => by
    have e' : b = g' := by simpa [Value.ownBlock] using e
    rcases hat with hat | hat
    · exact hb2 (by rw [hat, e'])
    · omega
  have hsz7 := h7.size
  refine ⟨⟨?_, ?_, ?_, ?_⟩, far R (by omega) (by omega) (fun e => by have := hrowge R e.symm; omega)⟩
  · rw [List.length_append]
    exact (hn3.set _).setN' _
  · rw [List.length_append, List.map_append]
    exact (hown'.kept (grownBy_setc w3 _ _) (.inr (fun e => hn3.not_row hown' e.symm))).kept (grownBy_setc _ _ _) (.inr (fun e => hn3.not_row hown' e.symm))
  · intro x hx
    rcases List.mem_append.1 hx with hx | hx
    · refine (h5 x hx).kept (fun b hb1 => ?_) (fun b hb1 => ?_)
      · obtain ⟨q1, q2, q3, q4⟩ := hb1
        exact ⟨q1, by rw [hsz]; omega, q3, notg b (by omega) q4⟩
      · obtain ⟨q1, q2, q3, q4⟩ := hb1
        exact (far b (by omega) q3 q4).trans (hb.block b q2 (fun e => by have := Option.some.inj e; omega))
    · simp at hx
      subst hx
      have hvb : ∀ b, wr.heap.size ≤ b → some b ≠ v.ownBlock := fun b h e => by have := own_lt h4 e.symm; omega
      refine hT.kept (fun b hb1 => ?_) (fun b hb1 => ?_)
      · exact ⟨by omega, by rw [hsz]; omega, by omega, notg b (by omega) (hvb b hb1.1)⟩
      · exact far b hb1.2 (by omega) (hvb b hb1.1)
  · have g1 := grownR_trans h7 hb
    refine ⟨hgrow.os.trans g1.os, hgrow.tape.trans g1.tape, hgrow.output.trans g1.output, by rw [hsz]; omega, fun j hj hn => ?_⟩
    exact (far j (by omega) (by omega) (fun e => by have := hrowge j e.symm; omega)).trans (g1.block j hj hn)

theorem kidsG_end {wb wr : World} {R f : Nat} {nm : List UInt8} {v : Value} {zs : List (Nat × List (Nat × C))} (hK : KidsG wb R f nm v zs wr) (hz : zs.length ≤ 1000) :
    Trg (fun b => wb.heap.size ≤ b ∧ b < wr.heap.size) wr (f + 1) wb.heap.size ((wb.heap.size, ⟨3, zs.length, mkS nm⟩) :: (zs.map (·.2)).flatten) := by
  obtain ⟨hn, h4, h5, h7⟩ := hK
  have hl := hn.lt
  have hks : ∀ k ∈ zs, Trg (fun b => wb.heap.size ≤ b ∧ b < wr.heap.size) wr f k.1 k.2 := fun k hk => (h5 k hk).kept (fun b hb => ⟨by have := hb.1; omega, hb.2.1⟩) (fun b _ => rfl)
  rcases h4.2 with ⟨rfl, h0⟩ | ⟨g, cap, cur, rfl, hge, hgb, _⟩
  · have hz0 : zs = [] := List.length_eq_zero_iff.1 (by omega)
    subst hz0
    exact ⟨_, [], none, 0, rfl, ⟨Nat.le_refl _, hl⟩, by simp, hn, .inl rfl, by simp⟩
  · refine ⟨_, zs, some ⟨g, 0, none⟩, cap, rfl, ⟨Nat.le_refl _, hl⟩, hz, hn, .inr ⟨g, rfl, ⟨hge, (Array.getElem?_eq_some_iff.1 hgb).1⟩, fun i hi => ?_⟩, hks⟩
    have := h4.cellAt i (by omega)
    rw [this, List.getElem?_map, List.getElem?_eq_getElem hi]
    rfl

/-- A name, and its arguments. -/
def nameRes (f : Nat) (l : List UInt8) : Option (List C × List UInt8 × Nat) :=
  if (l.dropWhile sml).head? = some 40 then
    match rtA f (l.dropWhile sml).tail with
    | none => none
    | some (ks, r', g) => some (⟨3, ks.length, mkS (l.takeWhile sml)⟩ :: ks.flatten, r', g)
  else some ([⟨3, 0, mkS (l.takeWhile sml)⟩], l.dropWhile sml, f)

theorem rtT_cons (f : Nat) (b : UInt8) (r : List UInt8) : rtT (f + 1) (b :: r) =
    if b = 88 then (match numRes 1 1 r with | none => none | some (c, r') => some ([c], r', f))
    else if b = 45 then (match numRes 2 (-1) r with | none => none | some (c, r') => some ([c], r', f))
    else if dig b then (match numRes 2 1 (b :: r) with | none => none | some (c, r') => some ([c], r', f))
    else nameRes f (b :: r) := by
  rw [rtT, rdWord_cons]
  by_cases h1 : b = 88
  · rw [if_pos h1, if_pos h1]
    unfold numRes
    cases hr : rdNum r with
    | none => rfl
    | some x =>
      obtain ⟨v, r'⟩ := x
      simp
  · rw [if_neg h1, if_neg h1]
    by_cases h2 : b = 45
    · rw [if_pos h2, if_pos h2]
      unfold numRes
      cases hr : rdNum r with
      | none => rfl
      | some x =>
        obtain ⟨v, r'⟩ := x
        by_cases hv : v = 0
        · subst hv; simp
        · simp [hv]
    · rw [if_neg h2, if_neg h2]
      by_cases h3 : dig b = true
      · rw [if_pos h3, if_pos h3]
        unfold numRes
        cases hr : rdNum (b :: r) with
        | none => rfl
        | some x =>
          obtain ⟨v, r'⟩ := x
          simp
      · rw [if_neg h3, if_neg h3]
        unfold nameRes mkS
        simp only [true_and]
        all_goals (split <;> rfl)

/-- Arguments behind those that are read. -/
def comb (zs : List (Nat × List (Nat × C))) (o : Option (List (List C) × List UInt8 × Nat)) : Option (List (List C) × List UInt8 × Nat) := match o with
  | none => none
  | some (ks, r, g) => some (zs.map (fun x => x.2.map (·.2)) ++ ks, r, g)

/-- How many places there may still be. -/
def pl (R : Nat) (W : World) : Nat := match W.cell? ⟨R, 1, none⟩ with
  | some (.int _ p) => (40 - p).toNat
  | _ => 0
end Go.Proofs.Ytkedckmpjedjoaa

/- The reader of texts of the program: the walks of name and term. -/
namespace Go.Proofs.Ytkedckmpjedjoaa
open Go.RowKit Go.Shelf
set_option linter.unusedVariables false
set_option linter.unusedSimpArgs false

theorem KidsG.grow {wb wr w' : World} {R f : Nat} {nm : List UInt8} {v : Value} {zs : List (Nat × List (Nat × C))} (hK : KidsG wb R f nm v zs wr) (hg : wr.grownBy w' (some R)) (hR : R < wb.heap.size) : KidsG wb R f nm v zs w' := by
  obtain ⟨h3, h4, h5, h7⟩ := hK
  have hs := hg.size
  refine ⟨(hg.block _ h3.lt (fun e => by have := Option.some.inj e; omega)).trans h3, own_apart h4 hg (fun k e => .inl (by cases e; exact hR)), fun x hx => ?_, grownR_trans h7 hg⟩
  refine (h5 x hx).kept (fun b hb => ?_) (fun b hb => ?_)
  · exact ⟨hb.1, Nat.lt_of_lt_of_le hb.2.1 hs, hb.2.2⟩
  · exact hg.block b hb.2.1 (fun e => by have := Option.some.inj e; have := hb.1; omega)

end Go.Proofs.Ytkedckmpjedjoaa

/- The reader of texts of the program: the walks of term and TrmRead. -/
namespace Go.Proofs.Ytkedckmpjedjoaa
open Go.RowKit Go.Shelf
set_option linter.unusedVariables false
set_option linter.unusedSimpArgs false

def oneR (f : Nat) (o : Option (C × List UInt8)) : Option (List C × List UInt8 × Nat) := match o with
  | none => none
  | some (c, r') => some ([c], r', f)
end Go.Proofs.Ytkedckmpjedjoaa

/- The program's TrmRead. -/
namespace Go.Proofs.Ytkedckmpjedjoaa
open Go.RowKit Go.Shelf
set_option linter.unusedVariables false
set_option linter.unusedSimpArgs false

theorem rdNum_len {s r : List UInt8} {v : Int} (h : rdNum s = some (v, r)) : r.length ≤ s.length := by
  have := congrArg List.length (rdNum_back h).2
  rw [List.length_append] at this
  omega
theorem rdWord_fit {s r : List UInt8} {c : C} (h : rdWord s = some (c, r)) : c.s.size ≤ s.length ∧ r.length ≤ s.length := by
  have hb := congrArg List.length (rdWord_back h).1
  rw [List.length_append] at hb
  refine ⟨?_, by omega⟩
  cases s with
  | nil => cases h
  | cons b s =>
    rw [rdWord_cons] at h
    have h0 : (ByteArray.empty).size ≤ (b :: s).length := by simp
    split at h
    · split at h
      · injection h with h; injection h with h1 h2; subst h1; exact h0
      · cases h
    · split at h
      · split at h
        · split at h
          · cases h
          · injection h with h; injection h with h1 h2; subst h1; exact h0
        · cases h
      · split at h
        · split at h
          · injection h with h; injection h with h1 h2; subst h1; exact h0
          · cases h
        · injection h with h; injection h with h1 h2; subst h1
          have h3 : ((b :: s).takeWhile sml).length ≤ (b :: s).length := (tw_take sml (b :: s)).2.2
          have h4 : (⟨((b :: s).takeWhile sml).toArray⟩ : ByteArray).size = ((b :: s).takeWhile sml).length := by rw [← bl_size, bl_mk]
          show (⟨((b :: s).takeWhile sml).toArray⟩ : ByteArray).size ≤ _
          omega

theorem rt_fit : ∀ f, (∀ s t r g, rtT f s = some (t, r, g) → ∀ c ∈ t, c.s.size ≤ s.length) ∧ (∀ s ks r g, rtA f s = some (ks, r, g) → ∀ c ∈ ks.flatten, c.s.size ≤ s.length) := by
  intro f
  induction f using Nat.strongRecOn with
  | _ f ih =>
    have hT : ∀ s t r g, rtT f s = some (t, r, g) → ∀ c ∈ t, c.s.size ≤ s.length := by
      intro s t r g h c hc
      cases f with
      | zero => rw [rtT] at h; cases h
      | succ f =>
        rw [rtT] at h
        split at h
        · cases h
        · rename_i c1 r1 hw
          obtain ⟨w1, w2⟩ := rdWord_fit hw
          split at h
          · rename_i hc3
            split at h
            · cases h
            · rename_i ks r2 g2 ha
              injection h with h; injection h with h1 h2
              subst h1
              rcases List.mem_cons.1 hc with rfl | hc
              · exact w1
              · have := (ih f (by omega)).2 _ _ _ _ ha c hc
                rw [List.length_tail] at this
                omega
          · injection h with h; injection h with h1 h2
            subst h1
            simp only [List.mem_singleton] at hc
            subst hc
            exact w1
    refine ⟨hT, fun s ks r g h c hc => ?_⟩
    rw [rtA] at h
    split at h
    · cases h
    · rename_i t r1 g1 ht
      have hb := congrArg List.length (((rt_back f).1 _ _ _ _ ht).2.2).choose_spec.2
      rw [List.length_append] at hb
      split at h
      · injection h with h; injection h with a1 a2
        subst a1
        simp only [List.flatten_cons, List.flatten_nil, List.append_nil] at hc
        exact hT _ _ _ _ ht c hc
      · split at h
        · rename_i hx
          split at h
          · cases h
          · rename_i ks2 r2 g2 ha
            injection h with h; injection h with a1 a2
            subst a1
            rw [List.flatten_cons, List.mem_append] at hc
            rcases hc with hc | hc
            · exact hT _ _ _ _ ht c hc
            · have := (ih g1 hx.2).2 _ _ _ _ ha c hc
              rw [List.length_tail] at this
              omega
        · cases h

theorem rdX_none {l : List UInt8} (h : rtT 40 l = none) : rdX l = none := by unfold rdX; rw [h]
theorem rdX_some {l r : List UInt8} {t : List C} {g : Nat} (h : rtT 40 l = some (t, r, g)) : rdX l = if r = [] ∧ trm t = true then some t else none := by
  unfold rdX
  rw [h]
  cases r with
  | nil => simp
  | cons b r => simp

def ReadOut (l : List UInt8) (w : World) (e : Ending) (w' : World) : Prop := ∃ v, e = .returned (.tuple #[v, .bool (rdX l).isSome]) ∧ OwnC w' w.heap.size v ((rdX l).getD []) ∧ Below w.heap.size w w'
theorem read_none {l : List UInt8} {w w' : World} (h : rdX l = none) (hb : Below w.heap.size w w') : ReadOut l w (.returned (.tuple #[.slice none 0 0, .bool false])) w' := by
  refine ⟨_, by rw [h]; rfl, ?_, hb⟩
  rw [h]
  exact World.ownsRow_nil _ _ _ _

end Go.Proofs.Ytkedckmpjedjoaa

/- The specification's reader of texts: steps of its machine, and what it owns. -/
namespace Go.Proofs.Ytkedckmpjedjoaa
open Go.RowKit
set_option linter.unusedVariables false
set_option linter.unusedSimpArgs false

theorem bump_snoc (t : List C) (op : List Nat) (x : Nat) (hx : x < t.length) : bump t (op ++ [x]) = t.set x ⟨t[x].k, t[x].n + 1, t[x].s⟩ := by
  unfold bump
  rw [List.getLast?_concat]
  simp only
  apply List.ext_getElem
  · simp
  · intro i h1 h2
    rw [List.getElem_modify, List.getElem_set]
    by_cases e : x = i
    · subst e; simp
    · simp [e]
theorem bump_nil (t : List C) : bump t [] = t := by simp [bump]

theorem own_types4 {w : World} {base e1 e2 s1 s2 n1 n2 : Nat} {v1 v2 : Value} {x1 x2 : List Value} (h1 : w.ownsRow base e1 s1 v1 n1 x1) (h2 : w.ownsRow base e2 s2 v2 n2 x2) (he : e1 ≠ e2) : ∀ g, v1.ownBlock = some g → v2.ownBlock ≠ some g := by
  intro g g1 g2
  rcases h1.2 with ⟨rfl, _⟩ | ⟨a, c, cur, rfl, _, hb, _⟩
  · simp [Value.ownBlock] at g1
  · rcases h2.2 with ⟨rfl, _⟩ | ⟨a', c', cur', rfl, _, hb', _⟩
    · simp [Value.ownBlock] at g2
    · have e1 : a = g := by simpa [Value.ownBlock] using g1
      have e2 : a' = g := by simpa [Value.ownBlock] using g2
      subst e1 e2
      rw [hb] at hb'
      simp only [Option.some.injEq, Obj.cells.injEq] at hb'
      exact he hb'.2.1

/-- A row that is apart from a block that was written to, or made longer. -/
theorem own_other {w w' : World} {base e size n : Nat} {v : Value} {xs : List Value} {o : Option Nat} (h : w.ownsRow base e size v n xs) (hg : w.grownBy w' o) (hn : ∀ k, o = some k → v.ownBlock ≠ some k) : w'.ownsRow base e size v n xs := by
  rcases h.2 with ⟨e1, e2⟩ | ⟨a, c, cur, e1, hb, hc, r⟩
  · exact ⟨h.1, .inl ⟨e1, e2⟩⟩
  · refine ⟨h.1, .inr ⟨a, c, cur, e1, hb, ?_, r⟩⟩
    have hlt : a < w.heap.size := (Array.getElem?_eq_some_iff.1 hc).1
    rw [hg.block a hlt (fun k => hn a k.symm (by subst e1; rfl))]
    exact hc

theorem ownC_bump {W : World} {base g cp x : Nat} {t : List C} {o : Value} {op : List Nat} {z : List Int} (hx : x < t.length) (hO : OwnC W base (.slice (some ⟨g, 0, none⟩) t.length cp) t) (hI : OwnI W base o z) :
    OwnC (W.setCell ⟨g, x * 3 + 1, none⟩ (.int .i64 (t[x].n + 1))) base (.slice (some ⟨g, 0, none⟩) t.length cp) (bump t (op ++ [x])) ∧ OwnI (W.setCell ⟨g, x * 3 + 1, none⟩ (.int .i64 (t[x].n + 1))) base o z := by
  have hst := hO.stored (x * 3 + 1) (.int .i64 (t[x].n + 1))
  refine ⟨?_, ?_⟩
  · have h1 := hst.1
    rw [flat_set_n t x hx] at h1
    rw [bump_snoc t op x hx]
    unfold OwnC
    rw [List.length_set]
    exact h1
  · exact own_other hI hst.2 (fun k hk => by
      intro e
      have : g = k := by simpa using hk
      subst this
      exact own_types4 hI hO (by decide) g e rfl)

theorem spWord_bound (s : List UInt8) : -100000 ≤ (spWord s).1.n ∧ (spWord s).1.n ≤ 100000 ∧ (spWord s).1.s.size ≤ s.length := by
  cases s with
  | nil => simp [spWord]
  | cons b r =>
    have h0 : (ByteArray.empty).size ≤ (b :: r).length := by simp
    have ha : ∀ l : List UInt8, ∀ c ∈ l.takeWhile dig, dig c = true := fun l => by
      have := List.all_takeWhile (p := dig) (l := l)
      rwa [List.all_eq_true] at this
    rw [spWord_cons]
    split
    · have := spNum_bound (ha r); exact ⟨by simp only; omega, by simp only; omega, h0⟩
    · split
      · have := spNum_bound (ha r); exact ⟨by simp only; omega, by simp only; omega, h0⟩
      · split
        · have := spNum_bound (ha (b :: r)); exact ⟨by simp only; omega, by simp only; omega, h0⟩
        · refine ⟨by simp only; omega, by simp only; omega, ?_⟩
          have h3 : ((b :: r).takeWhile sml).length ≤ (b :: r).length := (tw_take sml (b :: r)).2.2
          have h4 : (⟨((b :: r).takeWhile sml).toArray⟩ : ByteArray).size = ((b :: r).takeWhile sml).length := by rw [← bl_size, bl_mk]
          show (⟨((b :: r).takeWhile sml).toArray⟩ : ByteArray).size ≤ _
          omega

theorem run_stop {f : Nat} {l : List UInt8} {j j2 : Nat} {c : C} {t : List C} {op : List Nat} (hj : j < l.length) (hw : spWord (l.drop j) = (c, l.drop j2)) (hjj : j ≤ j2) (h : j2 ≤ j) : spRun (f + 1) (l.drop j) t op = none := by
  have e : j2 = j := by omega
  subst e
  rw [spRun, if_neg (by simp; omega), hw]
  simp
theorem run_open {f : Nat} {l : List UInt8} {j j2 : Nat} {c : C} {t : List C} {op : List Nat} (hj : j < l.length) (hw : spWord (l.drop j) = (c, l.drop j2)) (h : j < j2) (hj2 : j2 ≤ l.length) (hk : c.k = 3) (hh : (l.drop j2).head? = some 40) :
    spRun (f + 1) (l.drop j) t op = spRun f (l.drop (j2 + 1)) (bump t op ++ [c]) (op ++ [t.length]) := by
  rw [spRun, if_neg (by simp; omega), hw]
  dsimp only
  rw [if_neg (by simp; omega), if_pos ⟨hk, hh⟩, List.tail_drop]
theorem run_close {f : Nat} {l : List UInt8} {j j2 : Nat} {c : C} {t : List C} {op : List Nat} (hj : j < l.length) (hw : spWord (l.drop j) = (c, l.drop j2)) (h : j < j2) (hj2 : j2 ≤ l.length) (hk : ¬ (c.k = 3 ∧ (l.drop j2).head? = some 40)) :
    spRun (f + 1) (l.drop j) t op = spRun f (spComma (spClose (l.drop j2) op).1) (bump t op ++ [c]) (spClose (l.drop j2) op).2 := by
  rw [spRun, if_neg (by simp; omega), hw]
  dsimp only
  rw [if_neg (by simp; omega), if_neg hk]
theorem close_on {l : List UInt8} {j : Nat} {op : List Nat} {x : Nat} (h : (l.drop j).head? = some 41) : spClose (l.drop j) (op ++ [x]) = spClose (l.drop (j + 1)) op := by
  obtain ⟨r, hr⟩ : ∃ r, l.drop j = 41 :: r := by
    cases hl : l.drop j with
    | nil => rw [hl] at h; cases h
    | cons b r => rw [hl] at h; simp at h; subst h; exact ⟨r, rfl⟩
  rw [hr, spClose, if_pos ⟨rfl, by simp⟩, List.dropLast_concat, show l.drop (j + 1) = r by rw [← List.tail_drop, hr]; rfl]
theorem close_end {l : List UInt8} {j : Nat} {op : List Nat} (h : ¬ ((l.drop j).head? = some 41 ∧ op ≠ [])) : spClose (l.drop j) op = (l.drop j, op) := by
  cases hl : l.drop j with
  | nil => rw [spClose]
  | cons b r =>
    rw [spClose, if_neg (fun h' => h ⟨by rw [hl, h'.1]; rfl, h'.2⟩)]
theorem comma_at (l : List UInt8) (j : Nat) : spComma (l.drop j) = l.drop (if (l.drop j).head? = some 44 then j + 1 else j) := by
  unfold spComma
  split
  · rw [List.tail_drop]
  · rfl
theorem head_at {l : List UInt8} {j : Nat} (h : j < l.length) : (l.drop j).head? = some l[j] := by
  rw [List.drop_eq_getElem_cons h]; rfl
theorem head_no {l : List UInt8} {j : Nat} (h : ¬ j < l.length) : (l.drop j).head? = none := by
  rw [List.drop_eq_nil_of_le (by omega)]; rfl
theorem run_end {f : Nat} {l : List UInt8} {j : Nat} {t : List C} {op : List Nat} (h : ¬ (j < l.length ∧ 0 < f)) : spRun f (l.drop j) t op = some t := by
  cases f with
  | zero => simp [spRun]
  | succ f =>
    have hj : ¬ j < l.length := fun hj => h ⟨hj, by omega⟩
    rw [spRun, if_pos (List.drop_eq_nil_of_le (by omega))]

theorem rdX_run_none {l : List UInt8} (h : spRun 40 l [] [] = none) : rdX l = none := by
  cases hx : rdX l with
  | none => rfl
  | some u =>
    obtain ⟨hu, he⟩ := rdX_back hx
    rw [← he, spRun_text hu] at h
    cases h
theorem textT_bad {t : List C} (h : ¬ trm t = true) : textT t = ByteArray.empty := by
  unfold textT
  cases ht : trm t with
  | true => exact absurd ht h
  | false => rfl
theorem rdX_run_yes {l : List UInt8} {t : List C} (ht : textT t = mkS l) (hl : l ≠ []) : rdX l = some t := by
  have hb : bl (textT t) = l := by rw [ht]; exact bl_mk l
  by_cases h : trm t = true
  · rw [← hb]; exact rdX_text h
  · rw [textT_bad h] at hb
    exact absurd hb.symm hl
theorem rdX_run_no {l : List UInt8} {t : List C} (h : spRun 40 l [] [] = some t) (hn : ¬ (textT t = mkS l ∧ l ≠ [])) : rdX l = none := by
  cases hx : rdX l with
  | none => rfl
  | some u =>
    obtain ⟨hu, he⟩ := rdX_back hx
    rw [← he, spRun_text hu] at h
    injection h with h
    subst h
    refine absurd ⟨?_, ?_⟩ hn
    · have : textT u = mkS (bl (textT u)) := bl_inj (by rw [show bl (mkS (bl (textT u))) = bl (textT u) from bl_mk _])
      rw [he] at this
      exact this
    · intro e
      rw [e] at he
      exact textT_ne hu (bl_inj he)
end Go.Proofs.Ytkedckmpjedjoaa

/- The specification's reader of texts: TrmRead. -/
namespace Go.Proofs.Ytkedckmpjedjoaa
open Go.RowKit
set_option linter.unusedVariables false
set_option linter.unusedSimpArgs false
attribute [-go_sem] Go.Builtin.append_

/-- The run of an append of one place. -/
theorem app_oneP (w : World) (base : Nat) (v : Value) (t : List C) (c : C) (hO : OwnC w base v t) (hb : base ≤ w.heap.size) (hl : t.length ≤ 1048576) :
    ∃ v' w', (Builtin.append_ #[41, 41] 41 #[v, .slice (some ⟨w.heap.size, 0, none⟩) 1 1]).run Try.prog (w.alloc (.cells #[.int .i64 c.k, .int .i64 c.n, .string c.s] 98)) = .ok v' w' ∧ OwnC w' base v' (t ++ [c]) ∧ w.grownBy w' v.ownBlock := by
  obtain ⟨i0, hi, hz0, hz1, hz2⟩ := info_parts Try.infoCell
  obtain ⟨g, cap, w1, hr, ho, hg, hat, _⟩ := run_append_lies (P := Try.prog) (w.alloc (.cells #[.int .i64 c.k, .int .i64 c.n, .string c.s] 98)) 41 41 base 98 i0 _ 3 32 Try.underlying41 hi hz0 hz1 hz2 rfl (by decide) v t.length _ (World.ownsRow.alloc hO _) ⟨w.heap.size, 0, none⟩ 1 1 [.int .i64 c.k, .int .i64 c.n, .string c.s] rfl (fun j u hj => cell_three_new w _ _ _ 98 j u hj) (by intro u hu; simp at hu; rcases hu with rfl | rfl | rfl <;> rfl) (by omega) (by unfold maxLen; omega) (by omega) (by simp; omega) _ rfl
  refine ⟨_, _, hr, ?_, ?_⟩
  · unfold OwnC
    rw [show (t ++ [c]).length = t.length + 1 by simp, flat_append]
    exact ho
  · exact grown_trans (grown_below (cell_below _ _)) hg

/-- The run of an append of one number. -/
theorem app_oneN (w : World) (base : Nat) (v : Value) (z : List Int) (x : Int) (hO : OwnI w base v z) (hb : base ≤ w.heap.size) (hl : z.length ≤ 1048576) :
    ∃ v' w', (Builtin.append_ #[96, 96] 96 #[v, .slice (some ⟨w.heap.size, 0, none⟩) 1 1]).run Try.prog (w.alloc (.cells #[.int .i64 x] 3)) = .ok v' w' ∧ OwnI w' base v' (z ++ [x]) ∧ w.grownBy w' v.ownBlock := by
  obtain ⟨i0, hi, hz0, hz1, hz2⟩ := info_parts Try.infoInt
  obtain ⟨g, cap, w1, hr, ho, hg, hat, _⟩ := run_append_lies (P := Try.prog) (w.alloc (.cells #[.int .i64 x] 3)) 96 96 base 3 i0 _ 1 8 Try.underlying96 hi hz0 hz1 hz2 rfl (by decide) v z.length _ (World.ownsRow.alloc hO _) ⟨w.heap.size, 0, none⟩ 1 1 [.int .i64 x] rfl (cell_one_new _ _ _) (by intro u hu; simp at hu; subst hu; rfl) (by omega) (by unfold maxLen; omega) (by omega) (by simp; omega) _ rfl
  refine ⟨_, _, hr, ?_, ?_⟩
  · unfold OwnI
    rw [show (z ++ [x]).length = z.length + 1 by simp, show nums (z ++ [x]) = nums z ++ [.int .i64 x] by simp [nums]]
    exact ho
  · exact grown_trans (grown_below (cell_below _ _)) hg

/-- What the reader keeps behind a place's word. -/
def Bumped (w : World) (l : List UInt8) (c : C) (t : List C) (op : List Nat) (o : Value) (v cb : Value) (wx : World) : Prop :=
  ∃ k, cb = .pointer (some ⟨k, 0, none⟩) ∧ (∀ b, v.ownBlock = some b → b < k) ∧ wx.cell? ⟨k, 0, none⟩ = some (.int .i64 c.k) ∧ wx.cell? ⟨k, 1, none⟩ = some (.int .i64 c.n) ∧ wx.cell? ⟨k, 2, none⟩ = some (.string c.s) ∧ OwnC wx w.heap.size v (bump t op) ∧ OwnI wx w.heap.size o (op.map Int.ofNat) ∧ Below w.heap.size w wx

/-- How the reader stands. -/
def SpR (l : List UInt8) (w : World) (RES : Option (List C)) (v o i : Value) (wr : World) : Prop := ∃ (j : Nat) (t : List C) (op : List Nat) (v' o' : Value), v' = v ∧ o' = o ∧ i = .int .i64 j ∧ j ≤ l.length ∧ OwnC wr w.heap.size v' t ∧ OwnI wr w.heap.size o' (op.map Int.ofNat) ∧ t.length ≤ 40 ∧ (∀ x ∈ op, x < t.length) ∧ op.length ≤ t.length ∧ (∀ c ∈ t, -100000 ≤ c.n ∧ c.n ≤ 100000 + t.length ∧ c.s.size ≤ l.length) ∧ spRun (40 - t.length) (l.drop j) t op = RES ∧ Below w.heap.size w wr

/-- Brackets that close. -/
def SpC (l : List UInt8) (w wc : World) (t : List C) (io : Option Addr) (ic : Nat) (op : List Nat) (j2 : Nat) (o a : Value) : Prop :=
  ∃ (m3 j3 : Nat) (op3 : List Nat), o = .slice io m3 ic ∧ m3 = op3.length ∧ a = .int .i64 j3 ∧ j3 ≤ l.length ∧ (∀ x ∈ op3, x < t.length) ∧ op3.length ≤ t.length ∧ OwnI wc w.heap.size (.slice io m3 ic) (op3.map Int.ofNat) ∧ spClose (l.drop j3) op3 = spClose (l.drop j2) op

theorem read_no {l : List UInt8} {w w' : World} {v : Value} (h : rdX l = none) (hO : OwnC w' w.heap.size v []) (hb : Below w.heap.size w w') : ReadOut l w (.returned (.tuple #[v, .bool false])) w' := by
  refine ⟨v, by rw [h]; rfl, ?_, hb⟩
  rw [h]
  exact hO
theorem read_yes {l : List UInt8} {w w' : World} {v : Value} {t : List C} (h : rdX l = some t) (hO : OwnC w' w.heap.size v t) (hb : Below w.heap.size w w') : ReadOut l w (.returned (.tuple #[v, .bool true])) w' := by
  refine ⟨v, by rw [h]; rfl, ?_, hb⟩
  rw [h]
  exact hO

theorem bumped_set {w W : World} {l : List UInt8} {c : C} {t : List C} {op : List Nat} {o : Value} {x g k cap : Nat} (hx : x < t.length) (hg : g < k) (hb : w.heap.size ≤ g)
    (c0 : W.cell? ⟨k, 0, none⟩ = some (.int .i64 c.k)) (c1 : W.cell? ⟨k, 1, none⟩ = some (.int .i64 c.n)) (c2 : W.cell? ⟨k, 2, none⟩ = some (.string c.s))
    (hO : OwnC W w.heap.size (.slice (some ⟨g, 0, none⟩) t.length cap) t) (hI : OwnI W w.heap.size o ((op ++ [x]).map Int.ofNat)) (hB : Below w.heap.size w W) :
    Bumped w l c t (op ++ [x]) o (.slice (some ⟨g, 0, none⟩) t.length cap) (.pointer (some ⟨k, 0, none⟩)) (W.setCell ⟨g, x * 3 + 1, none⟩ (.int .i64 (t[x].n + 1))).drew := by
  obtain ⟨h1, h2⟩ := ownC_bump (op := op) hx hO hI
  have hk : (W.setCell ⟨g, x * 3 + 1, none⟩ (.int .i64 (t[x].n + 1))).heap[k]? = W.heap[k]? := Below.heap_setCell _ _ _ _ (by show k ≠ g; omega)
  exact ⟨k, rfl, fun b e => (by have : g = b := by simpa [Value.ownBlock] using e
                                omega), (World.cell?_of_block (a := ⟨k, 0, none⟩) hk).trans c0, (World.cell?_of_block (a := ⟨k, 1, none⟩) hk).trans c1, (World.cell?_of_block (a := ⟨k, 2, none⟩) hk).trans c2, h1, h2, (hB.setCell (p := ⟨g, x * 3 + 1, none⟩) hb _).drew⟩

set_option maxRecDepth 100000 in
set_option maxHeartbeats 4000000 in
theorem specTrmRead_any (l : List UInt8) (w : World) (hl : l.length ≤ 1000000000) :
    Calls Try.prog 164 #[.string (mkS l)] w (ReadOut l w) := by
  have hs := mkS_size l
  obtain ⟨RES, hRES⟩ : ∃ R, R = spRun 40 l [] [] := ⟨_, rfl⟩
  have hO0 : OwnC ((w.alloc (.cells #[] 98)).alloc (.cells #[] 3)) w.heap.size (.slice (some ⟨w.heap.size, 0, none⟩) 0 0) [] := World.ownsRow.alloc (World.ownsRow_made w #[] 0 (Nat.le_refl _) (by simp [maxLen]) rfl) _
  have hI0 : OwnI ((w.alloc (.cells #[] 98)).alloc (.cells #[] 3)) w.heap.size (.slice (some ⟨w.heap.size + 1, 0, none⟩) 0 0) [] := own_lo (by
    have := World.ownsRow_made (w.alloc (.cells #[] 98)) (e := 3) (size := 1) #[] 0 (Nat.le_refl _) (by simp [maxLen]) rfl
    rw [World.size_alloc] at this
    exact this) (fun k e => by simp [Value.ownBlock] at e; omega)
  have HR0 := hide hRES
  clear hRES
  go_enter Try.func164, Try.ntmps164
  go_wp2
  go_loopw [4, 5, 6] (fun v o i wr => SpR l w RES v o i wr) (fun v _ _ _ => 40 - (lenVx v))
  case atStart => exact ⟨0, [], [], _, _, rfl, rfl, rfl, Nat.zero_le _, hO0, hI0, by simp, by simp, by simp, by simp, (unhide HR0).symm, (cell_below _ _).trans (cell_below _ _ |>.mono (by simp))⟩
  case round =>
    obtain ⟨j, t, op, v, o, rfl, rfl, rfl, hj, hO, hI, ht, hop, hol, hcs, hrun, hB⟩ := hrel
    clear hO0 hI0
    obtain ⟨ao, cap, rfl, hR⟩ := hO.shape
    by_cases hmore : j < l.length ∧ t.length < 40
    · obtain ⟨hj1, ht1⟩ := hmore
      have HT := hide (l1Take_any l j hj1 hl wr)
      have HO := hide hO
      have HI := hide hI
      have HB := hide hB
      have HOL := hide hol
      have HC := hide (And.intro hop (And.intro hcs hrun))
      clear hO hI hB hop hcs hrun hR
      go_upto_region 6 with fail
      refine (unhide HT).mono ?_
      rintro e w2 ⟨c, j2, rfl, hjj, hj2, hsw, hb2⟩
      have HSW := hide hsw
      clear hsw HT
      by_cases hkj : j2 ≤ j
      · obtain ⟨hop, hcs, hrun⟩ := unhide HC
        obtain ⟨f, hf⟩ : ∃ f, 40 - t.length = f + 1 := ⟨39 - t.length, by omega⟩
        rw [hf, run_stop hj1 (unhide HSW) hjj hkj] at hrun
        have hb3 := bstep (bstep (unhide HB) hb2) (cell_below w2 (.cells #[.int .i64 c.k, .int .i64 c.n, .string c.s] 98))
        have hnew := World.ownsRow_made (w2.alloc (.cells #[.int .i64 c.k, .int .i64 c.n, .string c.s] 98)) (e := 98) (size := 3) #[] 0 hb3.size (by simp [maxLen]) rfl
        rw [World.size_alloc] at hnew
        have FIN := hide (read_no (rdX_run_none ((unhide HR0).symm.trans hrun.symm)) hnew (bstep hb3 (cell_below _ _)))
        clear hop hcs hrun hnew hb3 HC HB HO HI HSW HR0
        go_wp2
        go_ret2
        exact unhide FIN
      · have HI0 := unhide HI
        have hol2 : op.length ≤ 40 := by omega
        obtain ⟨m, hm⟩ : ∃ m, m = op.length := ⟨_, rfl⟩
        obtain ⟨io, ic, rfl⟩ : ∃ io ic, o = .slice io m ic := by
          rcases HI0.2 with ⟨e, hn⟩ | ⟨g, cp, cur, e, _⟩
          · have : m = 0 := by rw [hm]; simpa using hn
            subst this
            exact ⟨none, 0, by rw [e]⟩
          · exact ⟨some ⟨g, 0, none⟩, cp, by rw [e, hm]; simp⟩
        have HM := hide hm
        have hm40 : m ≤ 40 := by omega
        clear HI0 hol hol2 hm
        go_upto_if 32 with fail
        go_cut [4, 5, 6, 7, 8] from 11 to 114 (fun v1 o1 a1 cb k1 wx => o1 = .slice io m ic ∧ a1 = .int .i64 j ∧ k1 = .int .i64 j2 ∧ Bumped w l c t op (.slice io m ic) v1 cb wx)
        case first =>
          have hm := unhide HM
          have hO2 := own_below (unhide HO) hb2
          have hI2 := own_below (unhide HI) hb2
          have hB2 := bstep (unhide HB) hb2
          have hb3 := cell_below w2 (.cells #[.int .i64 c.k, .int .i64 c.n, .string c.s] 98)
          have HK := hide (And.intro (cell_three_new w2 (.int .i64 c.k) (.int .i64 c.n) (.string c.s) 98) (bstep hB2 hb3))
          by_cases hz : m = 0
          · have hz0 : op = [] := List.length_eq_zero_iff.1 (by omega)
            have FIN : Hid (Bumped w l c t op (.slice io m ic) (.slice ao t.length cap) (.pointer (some ⟨w2.heap.size, 0, none⟩)) (w2.alloc (.cells #[.int .i64 c.k, .int .i64 c.n, .string c.s] 98))) := by
              refine ⟨w2.heap.size, rfl, fun b e => (World.ownsRow.lt hO2 b e).2, (unhide HK).1 0 _ rfl, (unhide HK).1 1 _ rfl, (unhide HK).1 2 _ rfl, ?_, World.ownsRow.alloc hI2 _, (unhide HK).2⟩
              rw [hz0, bump_nil]
              exact World.ownsRow.alloc hO2 _
            have hd : decide (0 < m) = false := by simp; omega
            clear hO2 hI2 hB2 hb3 hz0 HK hm hz
            rw [hd]
            go_wp2_with fail
            go_meet
            exact ⟨rfl, rfl, rfl, unhide FIN⟩
          · obtain ⟨op', x, rfl⟩ : ∃ op' x, op = op' ++ [x] := ⟨op.dropLast, op.getLast (fun e => hz (by rw [hm, e]; rfl)), (List.dropLast_concat_getLast _).symm⟩
            obtain ⟨hop, hcs, _⟩ := unhide HC
            have hxl := hop x (by simp)
            have hn := hcs t[x] (List.getElem_mem hxl)
            obtain ⟨m, rfl⟩ : ∃ k, m = k + 1 := ⟨m - 1, by omega⟩
            have hm' : m = (op'.map Int.ofNat).length := by simp at hm ⊢; omega
            have hI3 : OwnI w2 w.heap.size (.slice io ((op'.map Int.ofNat).length + 1) ic) (op'.map Int.ofNat ++ [(x : Int)]) := by rw [← hm']; have := hI2; rw [List.map_append] at this; exact this
            obtain ⟨gi, rfl, hgi, di2, fi2, hci⟩ := ownI_top hI3
            rw [← hm'] at di2 fi2 hci
            obtain ⟨g, cp, hv, hgb, hgl2, hcp⟩ := own_some hO2 (by omega)
            injection hv with e1 _ e3
            subst e1
            subst e3
            obtain ⟨c0, n0, s0, k0, k1, k2⟩ := own_place hO2 hxl
            have e1 : ((m : Int) + 1 - 1) = (m : Int) := by omega
            have hi0 : m < m + 1 := by omega
            have hm1 : m ≤ 1000 := by omega
            have wq1 : IntKind.i64.wrap ((m : Int) + 1 - 1) = (m : Int) := by simp [IntKind.wrap, IntKind.bits, IntKind.signed]; omega
            have wq2 : IntKind.i64.wrap (m : Int) = (m : Int) := by simp [IntKind.wrap, IntKind.bits, IntKind.signed]; omega
            have i1 : (0 : Int) ≤ (m : Int) := by omega
            have i2 : (m : Int) < (m : Int) + 1 := by omega
            have i3 : (m : Int) < ((m + 1 : Nat) : Int) := by omega
            have i4 : (0 : Int) ≤ (x : Int) := by omega
            have i5 : (x : Int) < (t.length : Int) := by omega
            have di3 := (hb3.cell (p := ⟨gi, m, none⟩) (World.block_lt_of_cell? w2 ⟨_, _, none⟩ di2)).trans di2
            have n3 := (hb3.cell (p := ⟨g, x * 3 + 1, none⟩) hgl2).trans n0
            have f3 := (hb3.frozen (p := ⟨g, x * 3 + 1, none⟩) hgl2).trans k1
            have wn : IntKind.i64.wrap (t[x].n + 1) = t[x].n + 1 := by simp [IntKind.wrap, IntKind.bits, IntKind.signed]; omega
            have hO3 := World.ownsRow.alloc hO2 (.cells #[.int .i64 c.k, .int .i64 c.n, .string c.s] 98)
            have hI4 := World.ownsRow.alloc hI2 (.cells #[.int .i64 c.k, .int .i64 c.n, .string c.s] 98)
            have FINX := hide (bumped_set (l := l) (c := c) (op := op') hxl hgl2 hgb ((unhide HK).1 0 _ rfl) ((unhide HK).1 1 _ rfl) ((unhide HK).1 2 _ rfl) hO3 hI4 (unhide HK).2)
            generalize t[x].n = nx at n3 wn n0 FINX
            generalize w2.alloc (.cells #[.int .i64 c.k, .int .i64 c.n, .string c.s] 98) = w3 at *
            have di4 : w3.drew.cell? ⟨gi, m, none⟩ = some (.int .i64 x) := di3
            have n4 : w3.drew.cell? ⟨g, x * 3 + 1, none⟩ = some (.int .i64 nx) := n3
            have f4 : w3.drew.frozen? ⟨g, x * 3 + 1, none⟩ = false := f3
            have hd : decide (0 < m + 1) = true := by simp
            rw [hd]
            clear HK hO3 hI4 hop hcs hn hm hm' hI3 hI2 hO2 hB2 di2 n0 k1 c0 s0 k0 k2 fi2 hci hcp hz hd
            go_wp2_with fail
            go_region_with (fail)
            all_goals go_wp2_with fail
            all_goals go_meet
            all_goals exact ⟨rfl, rfl, rfl, unhide FINX⟩
        case rest =>
          obtain ⟨rfl, rfl, rfl, hbm⟩ := hcut
          obtain ⟨kb, rfl, hkn, d0, d1, d2, hO1, hI1, hB1⟩ := hbm
          have hbl : (bump t op).length = t.length := bump_len t op
          have hO1' : OwnC wc w.heap.size u4 (bump t op) := hO1
          obtain ⟨v', w4, hr, hO4, hg4⟩ := app_oneP wc w.heap.size u4 (bump t op) c hO1 hB1.size (by rw [hbl]; omega)
          have hI4 : OwnI w4 w.heap.size (.slice io m ic) (op.map Int.ofNat) := own_other hI1 hg4 (own_types4 hO1 hI1 (by decide))
          have hB4 : Below w.heap.size w w4 := hB1.grown hg4 hB1.size (fun k e => (World.ownsRow.lt hO1 k e).1)
          have hkb : kb < wc.heap.size := World.block_lt_of_cell? wc ⟨_, _, none⟩ d0
          have d4 : w4.cell? ⟨kb, 0, none⟩ = some (.int .i64 c.k) := (World.cell?_of_block (a := ⟨kb, 0, none⟩) (hg4.block kb hkb (fun e => absurd (hkn kb e.symm) (Nat.lt_irrefl _)))).trans d0
          have HO4 := hide (And.intro hO4 (And.intro hI4 hB4))
          clear hO1 hO1' hI1 hB1 hO4 hI4 hB4 hg4 hkn hkb
          go_upto_region 12 with fail
          clear d0 d1 d2 hr
          go_cut [4, 5, 6, 72] from 11 to 114 (fun v1 o1 a1 cn wx => v1 = v' ∧ o1 = .slice io m ic ∧ a1 = .int .i64 j2 ∧ cn = .bool (decide (c.k = 3 ∧ (l.drop j2).head? = some 40)) ∧ wx = w4)
          case first =>
            by_cases hk3 : c.k = 3
            · have hkb : (c.k == 3) = true := by simpa using hk3
              by_cases hjl : j2 < l.length
              · have hh := head_at hjl
                have hget2 : (mkS l)[j2]'(by rw [hs]; exact hjl) = l[j2] := by
                  show (mkS l).data[j2]'_ = _
                  simp [mkS]
                generalize l[j2] = b at hh hget2
                by_cases h40 : (b.toNat : Int) = 40
                · have hbb : ((b.toNat : Int) == 40) = true := by simpa using h40
                  have hb : b = 40 := UInt8.toNat_inj.1 (by rw [show (40 : UInt8).toNat = 40 from rfl]; omega)
                  have HD : Hid (decide (c.k = 3 ∧ (l.drop j2).head? = some 40) = true) := by show _ = _; rw [hh, hb]; simp [hk3]
                  clear hh hb
                  go_wp2
                  go_meet
                  exact ⟨rfl, rfl, rfl, by rw [unhide HD], rfl⟩
                · have hb : ¬ b = 40 := fun e => h40 (by rw [e]; rfl)
                  have hbb : ((b.toNat : Int) == 40) = false := by simpa using h40
                  have HD : Hid (decide (c.k = 3 ∧ (l.drop j2).head? = some 40) = false) := by show _ = _; rw [hh]; simp [hb]
                  clear hh hb
                  go_wp2
                  go_meet
                  exact ⟨rfl, rfl, rfl, by rw [unhide HD], rfl⟩
              · have HD : Hid (decide (c.k = 3 ∧ (l.drop j2).head? = some 40) = false) := by show _ = _; rw [head_no hjl]; simp
                go_wp2
                go_meet
                exact ⟨rfl, rfl, rfl, by rw [unhide HD], rfl⟩
            · have hkb : (c.k == 3) = false := by simpa using hk3
              have HD : Hid (decide (c.k = 3 ∧ (l.drop j2).head? = some 40) = false) := by show _ = _; simp [hk3]
              go_wp2
              go_meet
              exact ⟨rfl, rfl, rfl, by rw [unhide HD], rfl⟩
          case rest =>
            obtain ⟨rfl, rfl, rfl, rfl, rfl⟩ := hcut
            obtain ⟨hO4, hI4, hB4⟩ := unhide HO4
            obtain ⟨hop, hcs, hrun⟩ := unhide HC
            have hsw := unhide HSW
            have hm := unhide HM
            have hol := unhide HOL
            have htl : (bump t op ++ [c]).length = t.length + 1 := by simp [hbl]
            have hcs' : ∀ d ∈ bump t op ++ [c], -100000 ≤ d.n ∧ d.n ≤ 100000 + ((t.length + 1 : Nat) : Int) ∧ d.s.size ≤ l.length := by
              intro d hd
              rcases List.mem_append.1 hd with hd | hd
              · rcases List.eq_nil_or_concat op with e | ⟨op', x, rfl⟩
                · rw [e, bump_nil] at hd
                  have := hcs d hd; omega
                · have hxl := hop x (by simp)
                  rw [show op'.concat x = op' ++ [x] by simp, bump_snoc t op' x hxl] at hd
                  rcases List.mem_or_eq_of_mem_set hd with hd | hd
                  · have := hcs d hd; omega
                  · have := hcs t[x] (List.getElem_mem hxl); subst hd; simp only; omega
              · have h1 := spWord_bound (l.drop j)
                rw [hsw] at h1
                simp only [List.mem_singleton] at hd
                subst hd
                simp only [List.length_drop] at h1
                omega
            obtain ⟨f, hf⟩ : ∃ f, 40 - t.length = f + 1 := ⟨39 - t.length, by omega⟩
            have hf2 : 40 - (t.length + 1) = f := by omega
            rw [hf] at hrun
            obtain ⟨ao4, cap4, hu4, _⟩ := hO4.shape
            rw [htl] at hu4
            by_cases hc : c.k = 3 ∧ (l.drop j2).head? = some 40
            · rw [decide_eq_true hc]
              have hR := run_open (f := f) (t := t) (op := op) hj1 hsw (by omega) hj2 hc.1 hc.2
              have hj2l : j2 < l.length := by
                rcases Nat.lt_or_ge j2 l.length with h | h
                · exact h
                · rw [head_no (by omega)] at hc; simp at hc
              obtain ⟨v5, w5, hr5, hI5, hg5⟩ := app_oneN wc w.heap.size (.slice io m ic) (op.map Int.ofNat) t.length hI4 hB4.size (by simp; omega)
              have hO5 := own_other hO4 hg5 (own_types4 hI4 hO4 (by decide))
              have hB5 := hB4.grown hg5 hB4.size (fun k e => (World.ownsRow.lt hI4 k e).1)
              subst hu4
              have FIN : Hid (SpR l w RES (.slice ao4 (t.length + 1) cap4) v5 (.int .i64 ((j2 : Int) + 1)) w5) := by
                refine ⟨j2 + 1, bump t op ++ [c], op ++ [t.length], _, _, rfl, rfl, by go_num, by omega, hO5, by simpa using hI5, by omega, ?_, by simp [hbl]; omega, by rw [htl]; exact hcs', by rw [htl, hf2, ← hR, hrun], hB5⟩
                intro x hx
                rw [htl]
                rcases List.mem_append.1 hx with hx | hx
                · have := hop x hx; omega
                · simp at hx; omega
              have e1 : ((t.length : Int) + 1 - 1) = (t.length : Int) := by omega
              have ht2 : t.length ≤ 1000 := by omega
              clear hO5 hI5 hB5 hO4 hI4 hB4 hcs' hcs hop hol hR hrun hsw hm htl hf hf2 hbl hg5 hm40
              go_wp2
              go_roundw
              case rel => exact unhide FIN
              case measure => simp [lenVx]; omega
            · rw [decide_eq_false hc]
              have hR := run_close (f := f) (t := t) (op := op) hj1 hsw (by omega) hj2 hc
              have HR := hide (hR.symm.trans hrun)
              have HF := hide (And.intro hO4 (And.intro hB4 (And.intro hcs' (And.intro htl hf2))))
              have HIM := hide (And.intro hm (And.intro hop (And.intro hol hI4)))
              subst hu4
              clear hO4 hI4 hB4 hcs' hcs hop hol hR hrun hsw hm htl hf hf2 hbl hm40
              go_wp2
              go_loopw [5, 6] (fun o a wr => wr = wc ∧ SpC l w wc t io ic op j2 o a) (fun o _ _ => lenVx o)
              case atStart =>
                obtain ⟨h1, h2, h3, h4⟩ := unhide HIM
                exact ⟨rfl, m, j2, op, rfl, h1, rfl, hj2, h2, h3, h4, rfl⟩
              case round =>
                obtain ⟨rfl, m3, j3, op3, rfl, hm3, rfl, hj3, hop3, hol3, hI3, hcl⟩ := hrel
                have HI3 := hide (And.intro hm3 (And.intro hop3 (And.intro hol3 hI3)))
                have HCL := hide hcl
                have hm340 : m3 ≤ 40 := by omega
                clear hm3 hop3 hol3 hI3 hcl HIM
                go_upto_region 15 with fail
                go_cut [5, 6, 95] from 81 to 102 (fun o1 a1 cn wx => o1 = .slice io m3 ic ∧ a1 = .int .i64 j3 ∧ cn = .bool (decide ((l.drop j3).head? = some 41 ∧ op3 ≠ [])) ∧ wx = wr)
                case first =>
                  by_cases hjl : j3 < l.length
                  · have hh := head_at hjl
                    have hget2 : (mkS l)[j3]'(by rw [hs]; exact hjl) = l[j3] := by
                      show (mkS l).data[j3]'_ = _
                      simp [mkS]
                    generalize l[j3] = b at hh hget2
                    by_cases h41 : (b.toNat : Int) = 41
                    · have hbb : ((b.toNat : Int) == 41) = true := by simpa using h41
                      have hb : b = 41 := UInt8.toNat_inj.1 (by rw [show (41 : UInt8).toNat = 41 from rfl]; omega)
                      by_cases hm0 : 0 < m3
                      · have hne : op3 ≠ [] := fun e => by have := (unhide HI3).1; rw [e] at this; simp at this; omega
                        have HD : Hid (decide ((l.drop j3).head? = some 41 ∧ op3 ≠ []) = true) := by show _ = _; rw [hh, hb]; simp [hne]
                        clear hh hb hne
                        go_wp2
                        go_meet
                        exact ⟨rfl, rfl, by rw [unhide HD], rfl⟩
                      · have hne : op3 = [] := List.length_eq_zero_iff.1 (by have := (unhide HI3).1; omega)
                        have HD : Hid (decide ((l.drop j3).head? = some 41 ∧ op3 ≠ []) = false) := by show _ = _; simp [hne]
                        clear hh hb hne
                        go_wp2
                        go_meet
                        exact ⟨rfl, rfl, by rw [unhide HD], rfl⟩
                    · have hb : ¬ b = 41 := fun e => h41 (by rw [e]; rfl)
                      have hbb : ((b.toNat : Int) == 41) = false := by simpa using h41
                      have HD : Hid (decide ((l.drop j3).head? = some 41 ∧ op3 ≠ []) = false) := by show _ = _; rw [hh]; simp [hb]
                      clear hh hb
                      go_wp2
                      go_meet
                      exact ⟨rfl, rfl, by rw [unhide HD], rfl⟩
                  · have HD : Hid (decide ((l.drop j3).head? = some 41 ∧ op3 ≠ []) = false) := by show _ = _; rw [head_no hjl]; simp
                    go_wp2
                    go_meet
                    exact ⟨rfl, rfl, by rw [unhide HD], rfl⟩
                case rest =>
                  obtain ⟨rfl, rfl, rfl, rfl⟩ := hcut
                  by_cases hc3 : (l.drop j3).head? = some 41 ∧ op3 ≠ []
                  · rw [decide_eq_true hc3]
                    obtain ⟨op', x, rfl⟩ : ∃ op' x, op3 = op' ++ [x] := ⟨op3.dropLast, op3.getLast hc3.2, (List.dropLast_concat_getLast _).symm⟩
                    obtain ⟨hm3, hop3, hol3, hI3⟩ := unhide HI3
                    obtain ⟨m3, rfl⟩ : ∃ k, m3 = k + 1 := ⟨m3 - 1, by simp at hm3; omega⟩
                    have hm' : m3 = (op'.map Int.ofNat).length := by simp at hm3 ⊢; omega
                    have hI3' : OwnI wc w.heap.size (.slice io ((op'.map Int.ofNat).length + 1) ic) (op'.map Int.ofNat ++ [(x : Int)]) := by rw [← hm']; have := hI3; rw [List.map_append] at this; exact this
                    have hI4 := ownI_take hI3'
                    rw [← hm'] at hI4
                    obtain ⟨gi, rfl, hgi, _, _, hci⟩ := ownI_top hI3'
                    rw [← hm'] at hci
                    have hj3l : j3 < l.length := by
                      rcases Nat.lt_or_ge j3 l.length with h | h
                      · exact h
                      · rw [head_no (by omega)] at hc3; simp at hc3
                    have FIN : Hid (SpC l w wc t (some ⟨gi, 0, none⟩) ic op j2 (.slice (some ⟨gi, 0, none⟩) m3 ic) (.int .i64 ((j3 : Int) + 1))) :=
                      ⟨m3, j3 + 1, op', rfl, by simpa using hm', by go_num, by omega, fun y hy => hop3 y (by simp [hy]), by simp at hol3; omega, hI4, by rw [← unhide HCL, close_on hc3.1]⟩
                    have e1 : ((m3 : Int) + 1 - 1) = (m3 : Int) := by omega
                    have hm1 : m3 ≤ 1000 := by omega
                    clear hc3 hm3 hop3 hol3 hI3 hm' hI3' hI4 HCL HI3
                    go_wp2
                    go_roundw
                    case rel => first | exact ⟨rfl, unhide FIN⟩ | exact ⟨trivial, unhide FIN⟩ | ((repeat apply Exists.intro); first | exact ⟨⟨rfl, unhide FIN⟩, rfl⟩ | exact ⟨⟨trivial, unhide FIN⟩, rfl⟩ | exact ⟨unhide FIN, rfl⟩)
                    case measure => simp [lenVx]
                  · rw [decide_eq_false hc3]
                    have hce := close_end hc3
                    rw [unhide HCL] at hce
                    have HCE := hide hce
                    clear hce HCL hc3
                    go_upto_region 18 with fail
                    go_cut [4, 5, 6, 112] from 11 to 114 (fun v1 o1 a1 cn wx => v1 = .slice ao4 (t.length + 1) cap4 ∧ o1 = .slice io m3 ic ∧ a1 = .int .i64 j3 ∧ cn = .bool (decide ((l.drop j3).head? = some 44)) ∧ wx = wc)
                    case first =>
                      by_cases hjl : j3 < l.length
                      · have hh := head_at hjl
                        have hget2 : (mkS l)[j3]'(by rw [hs]; exact hjl) = l[j3] := by
                          show (mkS l).data[j3]'_ = _
                          simp [mkS]
                        generalize l[j3] = b at hh hget2
                        by_cases h44 : (b.toNat : Int) = 44
                        · have hbb : ((b.toNat : Int) == 44) = true := by simpa using h44
                          have hb : b = 44 := UInt8.toNat_inj.1 (by rw [show (44 : UInt8).toNat = 44 from rfl]; omega)
                          have HD : Hid (decide ((l.drop j3).head? = some 44) = true) := by show _ = _; rw [hh, hb]; simp
                          clear hh hb
                          go_wp2
                          go_meet
                          exact ⟨rfl, rfl, rfl, by rw [unhide HD], rfl⟩
                        · have hb : ¬ b = 44 := fun e => h44 (by rw [e]; rfl)
                          have hbb : ((b.toNat : Int) == 44) = false := by simpa using h44
                          have HD : Hid (decide ((l.drop j3).head? = some 44) = false) := by show _ = _; rw [hh]; simp [hb]
                          clear hh hb
                          go_wp2
                          go_meet
                          exact ⟨rfl, rfl, rfl, by rw [unhide HD], rfl⟩
                      · have HD : Hid (decide ((l.drop j3).head? = some 44) = false) := by show _ = _; rw [head_no hjl]; simp
                        go_wp2
                        go_meet
                        exact ⟨rfl, rfl, rfl, by rw [unhide HD], rfl⟩
                    case rest =>
                      obtain ⟨rfl, rfl, rfl, rfl, rfl⟩ := hcut
                      obtain ⟨hm3, hop3, hol3, hI3⟩ := unhide HI3
                      obtain ⟨hO4, hB4, hcs', htl, hf2⟩ := unhide HF
                      have hcm := comma_at l j3
                      by_cases hc4 : (l.drop j3).head? = some 44
                      · rw [decide_eq_true hc4]
                        rw [if_pos hc4] at hcm
                        have hj3l : j3 < l.length := by
                          rcases Nat.lt_or_ge j3 l.length with h | h
                          · exact h
                          · rw [head_no (by omega)] at hc4; simp at hc4
                        have FIN : Hid (SpR l w RES (.slice ao4 (t.length + 1) cap4) (.slice io m3 ic) (.int .i64 ((j3 : Int) + 1)) wc) := by
                          refine ⟨j3 + 1, bump t op ++ [c], op3, _, _, rfl, rfl, by go_num, by omega, hO4, hI3, by omega, ?_, by omega, by rw [htl]; exact hcs', ?_, hB4⟩
                          · intro x hx; have := hop3 x hx; omega
                          · have := unhide HR
                            rw [unhide HCE] at this
                            rw [htl, hf2, ← hcm]; exact this
                        clear hm3 hop3 hol3 hI3 hO4 hB4 hcs' htl hf2 hcm hc4 HR HCE HF HI3
                        go_wp2
                        go_roundw
                        case rel => first | exact unhide FIN | ((repeat apply Exists.intro); exact ⟨unhide FIN, rfl⟩)
                        case measure => simp [lenVx]; omega
                      · rw [decide_eq_false hc4]
                        rw [if_neg hc4] at hcm
                        have FIN : Hid (SpR l w RES (.slice ao4 (t.length + 1) cap4) (.slice io m3 ic) (.int .i64 (j3 : Int)) wc) := by
                          refine ⟨j3, bump t op ++ [c], op3, _, _, rfl, rfl, rfl, by omega, hO4, hI3, by omega, ?_, by omega, by rw [htl]; exact hcs', ?_, hB4⟩
                          · intro x hx; have := hop3 x hx; omega
                          · have := unhide HR
                            rw [unhide HCE] at this
                            rw [htl, hf2, ← hcm]; exact this
                        clear hm3 hop3 hol3 hI3 hO4 hB4 hcs' htl hf2 hcm hc4 HR HCE HF HI3
                        go_wp2
                        go_roundw
                        case rel => first | exact unhide FIN | ((repeat apply Exists.intro); exact ⟨unhide FIN, rfl⟩)
                        case measure => simp [lenVx]; omega
    · have hre := run_end (f := 40 - t.length) (t := t) (op := op) (show ¬ (j < l.length ∧ 0 < 40 - t.length) from fun h => hmore ⟨h.1, by omega⟩)
      rw [hrun] at hre
      have hrun' : spRun 40 l [] [] = some t := (unhide HR0).symm.trans hre
      have hF : Fit t := fun d hd => by have := (hcs d hd).2.2; unfold maxLen; omega
      have HTX := hide (specTrmText_any ao cap t wr (by unfold maxLen; omega) hR hF)
      have HX := hide (And.intro hO (And.intro hB hrun'))
      have ht3 : t.length ≤ 40 := ht
      have hmk : (mkS l).toList.isEmpty = l.isEmpty := by rw [ByteArray.toList_eq]; simp [mkS]
      clear hO hI hB hop hol hcs hrun hre hrun' hF hR HR0
      by_cases hj1 : j < l.length
      · have ht1 : ¬ t.length < 40 := fun h => hmore ⟨hj1, h⟩
        go_wp2_with fail
        refine (unhide HTX).mono ?_
        rintro e w3 ⟨rfl, hb3⟩
        obtain ⟨hO, hB, hrun'⟩ := unhide HX
        have hB3 := bstep hB hb3
        by_cases hy : textT t = mkS l
        · have hq : ((textT t).toList == (mkS l).toList) = true := by rw [hy]; simp
          by_cases hl0 : l = []
          · have hem : (mkS l).toList.isEmpty = true := by rw [hmk, hl0]; rfl
            have hnew := World.ownsRow_made w3 (e := 98) (size := 3) #[] 0 hB3.size (by simp [maxLen]) rfl
            have FIN := hide (read_no (rdX_run_no hrun' (fun h => h.2 hl0)) hnew (bstep hB3 (cell_below _ _)))
            clear hO hB hrun' hnew hy hl0 HX HTX hmk hs
            go_wp2
            go_ret2
            exact unhide FIN
          · have hem : (mkS l).toList.isEmpty = false := by rw [hmk]; cases l with
              | nil => exact absurd rfl hl0
              | cons _ _ => rfl
            have FIN := hide (read_yes (rdX_run_yes hy hl0) (own_below hO hb3) hB3)
            clear hO hB hrun' hy hl0 HX HTX hmk hs
            go_wp2
            go_ret2
            exact unhide FIN
        · have hq : ((textT t).toList == (mkS l).toList) = false := by
            rw [ByteArray.toList_eq, ByteArray.toList_eq]; simp only [beq_eq_false_iff_ne]; exact fun h => hy (bytes_ext h)
          have hnew := World.ownsRow_made w3 (e := 98) (size := 3) #[] 0 hB3.size (by simp [maxLen]) rfl
          have FIN := hide (read_no (rdX_run_no hrun' (fun h => hy h.1)) hnew (bstep hB3 (cell_below _ _)))
          clear hO hB hrun' hnew hy HX HTX hmk hs
          go_wp2
          go_ret2
          exact unhide FIN
      · skip
        go_wp2_with fail
        refine (unhide HTX).mono ?_
        rintro e w3 ⟨rfl, hb3⟩
        obtain ⟨hO, hB, hrun'⟩ := unhide HX
        have hB3 := bstep hB hb3
        by_cases hy : textT t = mkS l
        · have hq : ((textT t).toList == (mkS l).toList) = true := by rw [hy]; simp
          by_cases hl0 : l = []
          · have hem : (mkS l).toList.isEmpty = true := by rw [hmk, hl0]; rfl
            have hnew := World.ownsRow_made w3 (e := 98) (size := 3) #[] 0 hB3.size (by simp [maxLen]) rfl
            have FIN := hide (read_no (rdX_run_no hrun' (fun h => h.2 hl0)) hnew (bstep hB3 (cell_below _ _)))
            clear hO hB hrun' hnew hy hl0 HX HTX hmk hs
            go_wp2
            go_ret2
            exact unhide FIN
          · have hem : (mkS l).toList.isEmpty = false := by rw [hmk]; cases l with
              | nil => exact absurd rfl hl0
              | cons _ _ => rfl
            have FIN := hide (read_yes (rdX_run_yes hy hl0) (own_below hO hb3) hB3)
            clear hO hB hrun' hy hl0 HX HTX hmk hs
            go_wp2
            go_ret2
            exact unhide FIN
        · have hq : ((textT t).toList == (mkS l).toList) = false := by
            rw [ByteArray.toList_eq, ByteArray.toList_eq]; simp only [beq_eq_false_iff_ne]; exact fun h => hy (bytes_ext h)
          have hnew := World.ownsRow_made w3 (e := 98) (size := 3) #[] 0 hB3.size (by simp [maxLen]) rfl
          have FIN := hide (read_no (rdX_run_no hrun' (fun h => hy h.1)) hnew (bstep hB3 (cell_below _ _)))
          clear hO hB hrun' hnew hy HX HTX hmk hs
          go_wp2
          go_ret2
          exact unhide FIN
end Go.Proofs.Ytkedckmpjedjoaa
